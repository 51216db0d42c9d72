/- Walks: package rule, what a policy may have: Has, the closure that Check makes, a table whole, a scheme. -/
import Derived.Test.YtpheaepifjcmiaaDoorOnce
namespace Go.Proofs.YtpheaepifjcmiaaDoor
open Go.RowKit Go.Lib Rule
set_option maxRecDepth 100000
set_option linter.unusedVariables false

theorem bs_list (l : List UInt8) : (bs l).data.toList = l := rfl
theorem bs_size (l : List UInt8) : (bs l).size = l.length := size_eq _
/-- A slice's value of a policy. -/
def pol (a1 : Option Addr) (n1 c1 : Nat) (a2 : Option Addr) (n2 c2 : Nat) (a3 : Option Addr) (n3 c3 : Nat) : Value := .agg #[.slice a1 n1 c1, .slice a2 n2 c2, .slice a3 n3 c3]
theorem has_pol (a1 : Option Addr) (n1 c1 : Nat) (x y : Value) (es : List (List UInt8)) (l : List UInt8) (w : World) (h : IsS w a1 n1 es) (hs : n1 ≤ 4294967296) :
    Calls Tryd.prog 19 #[.agg #[.slice a1 n1 c1, x, y], .string (bs l)] w fun e w' => e = .returned (.bool (es.contains l)) ∧ Below w.heap.size w w' := by
  have H1 := hid (fun W (hW : IsS W a1 n1 es) => contains_any a1 n1 c1 es l W hW hs)
  have HH := hid h
  clear h
  obtain ⟨c, hc⟩ : ∃ c, es.contains l = c := ⟨_, rfl⟩
  obtain ⟨s, hs⟩ : ∃ s, bs l = s := ⟨_, rfl⟩
  have H1' : ∀ W, IsS W a1 n1 es → Calls Tryd.prog 33 #[.slice a1 n1 c1, .string s] W fun e w' => e = .returned (.bool c) ∧ W = w' := by
    intro W hW
    rw [← hc, ← hs]
    exact H1.out W hW
  rw [hc, hs]
  have H1 := hid H1'
  clear hc hs H1'
  go_enter Tryd.func19, Tryd.ntmps19
  have b0 : Below w.heap.size w (w.alloc (.cells #[.slice a1 n1 c1, x, y] 25)) := (Below.refl _ _).alloc (Nat.le_refl _) _
  go_wp2_with fail
  refine (H1.out _ (HH.out.below b0)).mono ?_
  rintro e w1 ⟨rfl, rfl⟩
  go_wp2
  go_ret
  exact ⟨rfl, b0⟩
/-- What the closure captured: the policy at one block, the known attributes at another, a map. -/
def MayW (w : World) (P K b : Nat) (a1 : Option Addr) (n1 c1 : Nat) (x y : Value) : Prop :=
  w.cell? ⟨P, 0, none⟩ = some (.slice a1 n1 c1) ∧ w.cell? ⟨P, 1, none⟩ = some x ∧ w.cell? ⟨P, 2, none⟩ = some y ∧ w.cell? ⟨K, 0, none⟩ = some (.map (some b)) ∧ IsK w b attrT
theorem MayW.below {w w' : World} {P K b : Nat} {a1 : Option Addr} {n1 c1 : Nat} {x y : Value} (h : MayW w P K b a1 n1 c1 x y) (hb : Below w.heap.size w w') : MayW w' P K b a1 n1 c1 x y := by
  obtain ⟨h1, h2, h3, h4, h5⟩ := h
  have k1 := World.block_lt_of_cell? _ _ h1
  have k4 := World.block_lt_of_cell? _ _ h4
  exact ⟨(hb.cell (p := ⟨P, 0, none⟩) k1).trans h1, (hb.cell (p := ⟨P, 1, none⟩) k1).trans h2, (hb.cell (p := ⟨P, 2, none⟩) k1).trans h3, (hb.cell (p := ⟨K, 0, none⟩) k4).trans h4, h5.below hb⟩
set_option maxHeartbeats 1000000 in
theorem mayHave_any (P K b : Nat) (a1 : Option Addr) (n1 c1 : Nat) (x y : Value) (es : List (List UInt8)) (l m : List UInt8) (w : World) (h : IsS w a1 n1 es) (hs : n1 ≤ 4294967296) (hm : m.length ≤ 1000000) (hW : MayW w P K b a1 n1 c1 x y) :
    Calls Tryd.prog 18 #[.agg #[.string (bs l), .string (bs m)], .pointer (some ⟨P, 0, none⟩), .pointer (some ⟨K, 0, none⟩)] w fun e w' => e = .returned (.bool (haveB es (l, m))) ∧ Below w.heap.size w w' := by
  have H1 := fun W (hW : IsS W a1 n1 es) => has_pol a1 n1 c1 x y es l W hW hs
  have HL := fun W (hW : IsK W b attrT) => run_lookK hW (bs m) (by rw [bs_size]; exact hm)
  rw [bs_list] at HL
  have hat : attrB m = !(attrOf m == 0) := attrB_eq m
  have hlt := attrOf_lt m
  obtain ⟨k, hk⟩ : ∃ k, attrOf m = k := ⟨_, rfl⟩
  rw [show kindIn attrT m = k from hk] at HL
  rw [hk] at hat hlt
  have hw0 := (Below.refl w.heap.size w).alloc (Nat.le_refl _) (.cells #[.string (bs l), .string (bs m)] 36)
  have hW1 := hW.below hw0
  obtain ⟨X, hX⟩ : ∃ X, bs l = X := ⟨_, rfl⟩
  obtain ⟨Y, hY⟩ : ∃ Y, bs m = Y := ⟨_, rfl⟩
  rw [hX] at H1 hw0 hW1 ⊢
  rw [hY] at HL hw0 hW1 ⊢
  have HH := hid (h.below hw0)
  obtain ⟨g1, g2, g3, g4, g5⟩ := hW1
  have hG := hid g5
  have B0 := hid hw0
  obtain ⟨r, hr⟩ : ∃ r, es.contains l = r := ⟨_, rfl⟩
  rw [hr] at H1
  have HR : haveB es (l, m) = (r && attrB m) := by unfold haveB; rw [hr]
  rw [HR, hat]
  have H1 := hid H1
  have HL := hid HL
  clear hW hX hY g5 hr HR hat hk h hw0
  cases r with
  | false =>
    go_enter Tryd.func18, Tryd.ntmps18
    go_wp2_with fail
    refine (H1.out _ HH.out).mono ?_
    rintro e w1 ⟨rfl, b1⟩
    have c1 := B0.out.trans (b1.mono B0.out.size)
    clear b1
    go_wp2
    go_ret
    exact ⟨rfl, c1⟩
  | true =>
    go_enter Tryd.func18, Tryd.ntmps18
    have hy1 : (w.alloc (.cells #[.string X, .string Y] 36)).cell? ⟨w.heap.size, 1, none⟩ = some (.string Y) := by simp
    go_wp2_with fail
    refine (H1.out _ HH.out).mono ?_
    rintro e w1 ⟨rfl, b1⟩
    have c1 := hid (B0.out.trans (b1.mono B0.out.size))
    have hl := HL.out _ (hG.out.below b1)
    have hk4 := (b1.cell (p := ⟨K, 0, none⟩) (World.block_lt_of_cell? _ _ g4)).trans g4
    have hk5 := (b1.cell (p := ⟨w.heap.size, 1, none⟩) (World.block_lt_of_cell? _ _ hy1)).trans hy1
    clear b1 g1 g2 g3 g4 hy1
    go_wp2
    go_ret
    refine ⟨ret_bool' ?_, c1.out⟩
    rw [Bool.eq_iff_iff]
    simp
end Go.Proofs.YtpheaepifjcmiaaDoor
