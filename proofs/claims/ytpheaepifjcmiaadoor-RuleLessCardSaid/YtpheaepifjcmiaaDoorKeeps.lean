/- Walks: package rule, Keeps. -/
import Derived.Test.YtpheaepifjcmiaaDoorCheck
namespace Go.Proofs.YtpheaepifjcmiaaDoor
open Go.RowKit Go.Lib Rule
set_option maxRecDepth 100000
set_option linter.unusedVariables false

set_option maxHeartbeats 1000000 in
theorem isAddress_any (x y : List UInt8) (w : World) (hx : x.length ≤ 1000000) (hy : y.length ≤ 1000000) :
    Calls Tryd.prog 32 #[.string (bs x), .string (bs y)] w fun e w' => e = .returned (.bool (isAddr x y)) ∧ Below w.heap.size w w' := by
  have HA := hid (attributes_any w)
  have HL := fun W (hW : IsK W w.heap.size attrT) => run_lookK hW (bs y) (by rw [bs_size]; exact hy)
  rw [bs_list] at HL
  have HK := fun W => kindOf_any (bs x) W (by rw [bs_size]; exact hx)
  rw [bs_list] at HK
  have hE : isAddr x y = if attrOf y = 5 then true else if attrOf y = 4 then kindOf x == 3 else false := rfl
  obtain ⟨k, hk⟩ : ∃ k, attrOf y = k := ⟨_, rfl⟩
  have hl6 := attrOf_lt y
  have hl7 := kindOf_lt x
  rw [show kindIn attrT y = k from hk] at HL
  obtain ⟨q, hq⟩ : ∃ q, kindOf x = q := ⟨_, rfl⟩
  rw [hq] at HK hE hl7
  rw [hk] at hE hl6
  have HL := hid HL
  have HK := hid HK
  generalize bs x = X at *
  generalize bs y = Y at *
  generalize isAddr x y = c at *
  clear hk hq
  by_cases h5 : k = 5
  · subst h5
    rw [if_pos rfl] at hE
    subst hE
    go_enter Tryd.func32, Tryd.ntmps32
    go_wp2_with fail
    refine HA.out.mono ?_
    rintro e w1 ⟨rfl, hk, b1⟩
    have hl := HL.out _ hk
    clear hk
    go_wp2
    go_ret
    exact ⟨rfl, b1⟩
  rw [if_neg h5] at hE
  have e5 : ((k : Int) == 5) = false := by simp; omega
  by_cases h4 : k = 4
  · subst h4
    rw [if_pos rfl] at hE
    have hE := hid (show decide ((q : Int) = 3) = c by rw [hE, Bool.eq_iff_iff]; simp; omega)
    clear h5
    go_enter Tryd.func32, Tryd.ntmps32
    go_wp2_with fail
    refine HA.out.mono ?_
    rintro e w1 ⟨rfl, hk, b1⟩
    have hl := HL.out _ hk
    clear hk
    go_wp2_with fail
    refine (HK.out _).mono ?_
    rintro e w2 ⟨rfl, b2⟩
    have c2 := b1.trans (b2.mono b1.size)
    go_wp2
    go_ret
    exact ⟨ret_bool' (by rw [← hE.out, Bool.eq_iff_iff]; simp), c2⟩
  · rw [if_neg h4] at hE
    subst hE
    have e4 : ((k : Int) == 4) = false := by simp; omega
    clear h5 h4
    go_enter Tryd.func32, Tryd.ntmps32
    go_wp2_with fail
    refine HA.out.mono ?_
    rintro e w1 ⟨rfl, hk, b1⟩
    have hl := HL.out _ hk
    clear hk
    go_wp2
    go_ret
    exact ⟨rfl, b1⟩
set_option maxHeartbeats 2000000 in
theorem keeps_any (a1 : Option Addr) (n1 c1 : Nat) (es : List (List UInt8)) (a2 : Option Addr) (n2 c2 : Nat) (ats : List (List UInt8 × List UInt8)) (a3 : Option Addr) (n3 c3 : Nat) (ss : List (List UInt8)) (x y z : List UInt8) (w : World)
    (h : PolW w a1 n1 c1 es a2 n2 c2 ats a3 n3 c3 ss) (hT : UrlW w) (hx : x.length ≤ 1000000) (hy : y.length ≤ 1000000) (hz : z.length ≤ 1000000) :
    Calls Tryd.prog 15 #[.agg #[.slice a1 n1 c1, .slice a2 n2 c2, .slice a3 n3 c3], .string (bs x), .agg #[.string (bs y), .string (bs z)]] w fun e w' => e = .returned (.bool (keepsB ats ss x y z)) ∧ Below w.heap.size w w' := by
  have H1 := fun W (hW : PolW W a1 n1 c1 es a2 n2 c2 ats a3 n3 c3 ss) => containsA_any a2 n2 c2 ats x y W hW.is2 (by have := hW.sm2; omega) hW.lc2 hW.cm2
  have H2 := fun W (hW : PolW W a1 n1 c1 es a2 n2 c2 ats a3 n3 c3 ss) (hT : UrlW W) => safe_any (bs z) a3 n3 c3 ss W hW.is3 (by rw [bs_size]; omega) (by have := hW.sm3; omega) hT
  rw [bs_list] at H2
  have H3 := hid (fun W => isAddress_any x y W hx hy)
  have hE : keepsB ats ss x y z = (ats.contains (x, y) && (Url.safe z ss || !isAddr x y)) := rfl
  generalize ats.contains (x, y) = b1 at H1 hE
  generalize Url.safe z ss = b2 at H2 hE
  have H1 := hid H1
  have H2 := hid H2
  have H3 : Hid (∀ W, Calls Tryd.prog 32 #[.string (bs x), .string (bs y)] W fun e w' => e = .returned (.bool (isAddr x y)) ∧ Below W.heap.size W w') := H3
  generalize isAddr x y = b3 at H3 hE
  generalize keepsB ats ss x y z = c at *
  have HE := hid hE
  generalize bs x = X at *
  generalize bs y = Y at *
  generalize bs z = Z at *
  have HH := hid h
  have HT := hid hT
  clear h hT hE hx hy hz
  cases b1 with
  | false =>
    go_enter Tryd.func15, Tryd.ntmps15
    have b0 := hid (((Below.refl w.heap.size w).alloc (Nat.le_refl _) (.cells #[.slice a1 n1 c1, .slice a2 n2 c2, .slice a3 n3 c3] 25)).alloc (by simp) (.cells #[.string Y, .string Z] 38))
    go_wp2_with fail
    refine (H1.out _ (HH.out.below b0.out)).mono ?_
    rintro e v1 ⟨rfl, k1⟩
    have e1 := b0.out.trans (k1.mono b0.out.size)
    clear k1
    go_wp2
    go_ret
    exact ⟨ret_bool' (by rw [HE.out]; rfl), e1⟩
  | true =>
    go_enter Tryd.func15, Tryd.ntmps15
    have b0 := hid (((Below.refl w.heap.size w).alloc (Nat.le_refl _) (.cells #[.slice a1 n1 c1, .slice a2 n2 c2, .slice a3 n3 c3] 25)).alloc (by simp) (.cells #[.string Y, .string Z] 38))
    go_wp2_with fail
    obtain ⟨W2, hW2⟩ : ∃ W2, (w.alloc (.cells #[.slice a1 n1 c1, .slice a2 n2 c2, .slice a3 n3 c3] 25)).alloc (.cells #[.string Y, .string Z] 38) = W2 := ⟨_, rfl⟩
    obtain ⟨B, hB⟩ : ∃ B, w.heap.size = B := ⟨_, rfl⟩
    have r2 : W2.cell? ⟨B, 2, none⟩ = some (.slice a3 n3 c3) := by rw [← hW2, ← hB]; simp
    have r0 : W2.cell? ⟨B + 1, 0, none⟩ = some (.string Y) := by rw [← hW2, ← hB]; simp
    have r1 : W2.cell? ⟨B + 1, 1, none⟩ = some (.string Z) := by rw [← hW2, ← hB]; simp
    rw [hW2] at b0 ⊢
    rw [hB]
    have h0 : ∀ V, Below W2.heap.size W2 V → V.cell? ⟨B + 1, 0, none⟩ = some (.string Y) := fun V hV => (hV.cell (p := ⟨B + 1, 0, none⟩) (World.block_lt_of_cell? _ _ r0)).trans r0
    have h1 : ∀ V, Below W2.heap.size W2 V → V.cell? ⟨B + 1, 1, none⟩ = some (.string Z) := fun V hV => (hV.cell (p := ⟨B + 1, 1, none⟩) (World.block_lt_of_cell? _ _ r1)).trans r1
    have h2 : ∀ V, Below W2.heap.size W2 V → V.cell? ⟨B, 2, none⟩ = some (.slice a3 n3 c3) := fun V hV => (hV.cell (p := ⟨B, 2, none⟩) (World.block_lt_of_cell? _ _ r2)).trans r2
    clear hW2 hB r0 r1 r2
    refine (H1.out _ (HH.out.below b0.out)).mono ?_
    rintro e v1 ⟨rfl, k1⟩
    have e1 : Below W2.heap.size W2 v1 := k1
    clear k1
    cases b2 with
    | true =>
      go_wp2_with fail
      refine (H2.out _ (HH.out.below (b0.out.trans (e1.mono b0.out.size))) (url_below HT.out (b0.out.trans (e1.mono b0.out.size)))).mono ?_
      rintro e v2 ⟨rfl, k2⟩
      have e2 := e1.trans (k2.mono e1.size)
      clear k2
      go_wp2
      go_ret
      exact ⟨ret_bool' (by rw [HE.out]; rfl), b0.out.trans (e2.mono b0.out.size)⟩
    | false =>
      go_wp2_with fail
      refine (H2.out _ (HH.out.below (b0.out.trans (e1.mono b0.out.size))) (url_below HT.out (b0.out.trans (e1.mono b0.out.size)))).mono ?_
      rintro e v2 ⟨rfl, k2⟩
      have e2 := e1.trans (k2.mono e1.size)
      clear k2
      go_wp2_with fail
      refine (H3.out _).mono ?_
      rintro e v3 ⟨rfl, k3⟩
      have e3 := e2.trans (k3.mono e2.size)
      clear k3
      go_wp2
      go_ret
      exact ⟨ret_bool' (by rw [HE.out]; rfl), b0.out.trans (e3.mono b0.out.size)⟩
end Go.Proofs.YtpheaepifjcmiaaDoor
