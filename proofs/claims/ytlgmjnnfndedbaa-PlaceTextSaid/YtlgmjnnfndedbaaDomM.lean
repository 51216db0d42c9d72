/- What the program's tree is known to do: the calls of package dom, over any tree that calls made. What layer 13 asks of the program's tree: layer 10's contracts that a place may use (no Move, no Copy, no Cut). -/
import Derived.Test.YtlgmjnnfndedbaaLinkW
import Derived.Test.YtlgmjnnfndedbaaLinkP
import Derived.Test.YtlgmjnnfndedbaaLinkK
import Derived.Test.YtlgmjnnfndedbaaLinkH
import Derived.Test.YtlgmjnnfndedbaaDomC
import Derived.Deep.LoopGhost
namespace Go.Proofs.Ytlgmjnnfndedbaa
open Go.RowKit Go.Lib
set_option maxRecDepth 100000
set_option linter.unusedVariables false

/-- Each node has what its kind has, and no more. -/
def BareT (t : Dom.T) : Prop := ∀ i, Dom.bareP (Dom.nodeAt t i).nd = (Dom.nodeAt t i).nd
theorem bareP_bare (x : Dom.N) : Dom.bareP (Dom.bareP x) = Dom.bareP x := by
  unfold Dom.bareP
  by_cases h : x.kind = 1
  · simp only [if_pos h]
    rw [if_pos (show (Dom.N.mk x.kind x.space x.name x.atts [] []).kind = 1 from h)]
    rfl
  · simp only [if_neg h]
    rw [if_neg (show ¬ (Dom.N.mk x.kind 0 [] [] x.text []).kind = 1 from h)]
    rfl
theorem BareT.same {t u : Dom.T} (h : BareT t) (hn : ∀ i, (Dom.nodeAt u i).nd = (Dom.nodeAt t i).nd) : BareT u := fun i => by rw [hn]; exact h i
theorem bareT_new : BareT Dom.tNew := fun i => by
  cases i with
  | zero => rfl
  | succ i =>
    rw [Dom.nodeAt_none (by simp [Dom.tNew])]
    rfl
theorem BareT.snoc {t : Dom.T} (h : BareT t) (x : Dom.N) : BareT (t ++ [⟨Dom.bareP x, -1, []⟩]) := fun i => by
  rw [Dom.nodeAt_snoc]
  split
  · exact bareP_bare x
  · exact h i
theorem BareT.make {t : Dom.T} (h : BareT t) (x : Dom.N) : BareT (Dom.makeT t x).1 := by
  unfold Dom.makeT
  split
  · exact h
  · exact h.snoc x
theorem cut_nd {t : Dom.T} (hG : Dom.Good t) (i : Int) : ∀ j, (Dom.nodeAt (Dom.cutT t i).1 j).nd = (Dom.nodeAt t j).nd := by
  intro j
  by_cases g : Dom.there t i ∧ 0 ≤ Dom.parAt t i.toNat
  · obtain ⟨⟨g1, g2⟩, g3⟩ := g
    have e : Dom.parAt t i.toNat = ((Dom.parAt t i.toNat).toNat : Nat) := by omega
    have := (Dom.cut_says hG e).2.nd j
    rwa [show ((i.toNat : Nat) : Int) = i by omega] at this
  · have e : Dom.cutT t i = (t, false) := by
      unfold Dom.cutT
      rw [if_pos]
      by_cases g1 : Dom.there t i
      · right
        have : ¬ 0 ≤ Dom.parAt t i.toNat := fun x => g ⟨g1, x⟩
        omega
      · exact .inl g1
    rw [e]
open Classical in
theorem put_nd {t : Dom.T} (hG : Dom.Good t) (p b i : Int) : ∀ j, (Dom.nodeAt (Dom.putT t p b i).1 j).nd = (Dom.nodeAt t j).nd := by
  intro j
  unfold Dom.putT
  split
  · rfl
  · rename_i g
    have hp : Dom.holds t p := Classical.byContradiction fun x => g (.inl x)
    have hi : Dom.there t i := Classical.byContradiction fun x => g (.inr (.inl x))
    have hup : ¬ Dom.Up t p.toNat i.toNat := fun x => g (.inr (.inr (.inr (.inr (.inl x)))))
    have C := Dom.cut_is hG (show i.toNat < t.length by have := hi.2; have := hi.1; omega)
    rw [show ((i.toNat : Nat) : Int) = i by have := hi.1; omega] at C
    have P := Dom.ins_says (t := (Dom.cutT t i).1) (i := i.toNat) (p := p.toNat) (Dom.placeL (Dom.kidsAt (Dom.cutT t i).1 p.toNat) b).toNat (by have := C.2.1; have := hi.1; have := hi.2; omega) (by have := C.2.1; have := hp.1.1; have := hp.1.2; omega) (fun e => hup (by rw [e]; exact .refl _))
    have := (P.nd j).trans (cut_nd hG i j)
    unfold Dom.insT at this
    rw [show ((p.toNat : Nat) : Int) = p by have := hp.1.1; omega] at this
    exact this
theorem BareT.text {t : Dom.T} (h : BareT t) {x : Nat} (hx : x < t.length) (hk : Dom.kindAt t x = 2) (s : List UInt8) : BareT (Dom.upd t x fun y => Dom.addText y s) := fun i => by
  rw [Dom.upd_at _ _ _ hx]
  split
  · have h1 := h x
    unfold Dom.kindAt at hk
    unfold Dom.addText
    generalize (Dom.nodeAt t x).nd = y at *
    cases y with
    | mk k sp nm at_ tx kd =>
      have hk' : k = 2 := hk
      subst hk'
      unfold Dom.bareP at h1 ⊢
      rw [if_neg (by show ¬ (2 = 1); omega)] at h1
      rw [if_neg (by show ¬ (2 = 1); omega)]
      have h2 : Dom.N.mk 2 0 [] [] tx [] = Dom.N.mk 2 sp nm at_ tx kd := h1
      injection h2 with _ e1 e2 e3 _ e5
      subst e1
      subst e2
      subst e3
      subst e5
      rfl
  · exact h i
theorem BareT.write {t : Dom.T} (h : BareT t) (hG : Dom.Good t) (p b : Int) (s : List UInt8) : BareT (Dom.writeT t p b s).1 := by
  by_cases hT : Takes t p b
  · obtain ⟨n, rfl, hp, _⟩ := Dom.holds_nat hT.1
    by_cases hs : s = []
    · subst hs
      unfold Dom.writeT
      split
      · exact h
      · rw [if_pos rfl]
        exact h
    · obtain ⟨A, B, h1, _, _, ⟨x, _, hx, hk, e⟩ | ⟨_, e⟩⟩ := write_split hG hp hT hs
      · rw [e]
        exact h.text (hG.kid n x (by rw [h1]; exact List.mem_append_left _ hx)).1 hk s
      · rw [e]
        exact (h.snoc _).same (put_nd (Dom.good_snoc hG _ (by rw [Dom.bareP_kind]; show 1 ≤ 2 ∧ 2 ≤ 3; omega)) _ _ _)
  · unfold Dom.writeT
    rw [if_pos]
    · exact h
    · by_cases g : Dom.holds t p
      · obtain ⟨n, rfl, hp, _⟩ := Dom.holds_nat g
        right
        rw [show ((n : Int)).toNat = n by omega]
        have : ¬ 0 ≤ Dom.placeL (Dom.kidsAt t n) b := fun q => hT ⟨g, (placeL_takes hG hp).2 q⟩
        omega
      · exact .inl g
/-- The program's tree. -/
def DomK (w : World) (base R : Nat) (S : Nat → Prop) (t : Dom.T) : Prop := TreeK w base R S t ∧ BareT t
theorem TurnedK.domK {w w' : World} {base R : Nat} {S : Nat → Prop} {t : Dom.T} (h : TurnedK w w' base R S t) (hb : BareT t) : TurnedP DomK w w' base R S t := by
  obtain ⟨S', h1, h2⟩ := h
  exact ⟨S', ⟨h1, hb⟩, h2⟩
theorem Fit.len6 {t : Dom.T} (h : Fit t) : t.length ≤ 1000000 := by have := h.few; omega
end Go.Proofs.Ytlgmjnnfndedbaa
namespace Go.Proofs.Ytlgmjnnfndedbaa
open Go.RowKit Go.Lib
set_option maxRecDepth 100000
set_option linter.unusedVariables false
/-- What is known of the program's tree. -/
structure DomM (EW : World → Prop) (P : World → Nat → Nat → (Nat → Prop) → Dom.T → Prop) : Prop where
  keep : ∀ {w w' : World} {base R : Nat} {S Q Q' : Nat → Prop} {t : Dom.T}, P w base R S t → Turn Q Q' w w' → (∀ k, S k → ¬ Q k) → P w' base R S t
  inb : ∀ {w : World} {base R : Nat} {S : Nat → Prop} {t : Dom.T}, P w base R S t → ∀ k, S k → base ≤ k ∧ k < w.heap.size
  new : ∀ (w : World) (base : Nat), EW w → base ≤ w.heap.size → Calls Try.prog 31 #[] w fun e w' => ∃ R, e = .returned (.pointer (some ⟨R, 0, none⟩)) ∧ TurnedP P w w' base R (fun _ => False) Dom.tNew
  make : ∀ (w : World) (base R : Nat) (S : Nat → Prop) (t : Dom.T) (x : Dom.N) (aa : Option Addr) (an ac : Nat) (ka : Option Addr) (kn kc : Nat), EW w → P w base R S t → Dom.Good t → Fit t → base ≤ w.heap.size → IsA w aa an x.atts → (aa = none → ac = 0) → Dom.cost x ≤ 500000 →
    Calls Try.prog 60 #[.pointer (some ⟨R, 0, none⟩), .agg #[.int .u8 x.kind, .int .u8 x.space, .string (bs x.name), .slice aa an ac, .string (bs x.text), .slice ka kn kc]] w fun e w' => e = .returned (.int .i64 (Dom.makeT t x).2) ∧ TurnedP P w w' base R S (Dom.makeT t x).1
  put : ∀ (w : World) (base R : Nat) (S : Nat → Prop) (t : Dom.T) (p b i : Int), EW w → P w base R S t → Dom.Good t → Fit t → base ≤ w.heap.size →
    Calls Try.prog 61 #[.pointer (some ⟨R, 0, none⟩), .int .i64 p, .int .i64 b, .int .i64 i] w fun e w' => e = .returned (.bool (Dom.putT t p b i).2) ∧ TurnedP P w w' base R S (Dom.putT t p b i).1
  write : ∀ (w : World) (base R : Nat) (S : Nat → Prop) (t : Dom.T) (p b : Int) (s : List UInt8), EW w → P w base R S t → Dom.Good t → Fit t → base ≤ w.heap.size → s.length ≤ 4000000 →
    Calls Try.prog 43 #[.pointer (some ⟨R, 0, none⟩), .int .i64 p, .int .i64 b, .string (bs s)] w fun e w' => e = .returned (.bool (Dom.writeT t p b s).2) ∧ TurnedP P w w' base R S (Dom.writeT t p b s).1
  parent : ∀ (w : World) (base R : Nat) (S : Nat → Prop) (t : Dom.T) (i : Int), EW w → P w base R S t → Dom.Good t → Fit t →
    Calls Try.prog 29 #[.pointer (some ⟨R, 0, none⟩), .int .i64 i] w fun e w' => e = .returned (.int .i64 (Dom.parentT t i)) ∧ Below w.heap.size w w'
  whole : ∀ (t : Dom.T), Dom.Good t → Fit t → ∃ D, ∀ d, D < d → ∀ (w : World) (base R : Nat) (S : Nat → Prop), EW w → P w base R S t →
    Calls Try.prog 26 #[.pointer (some ⟨R, 0, none⟩), .int .i64 0] w fun e w' => NewD d w w' e (Dom.wholeF d t 0) ∧ Below w.heap.size w w'
theorem domM_all : DomM (fun _ => True) DomK where
  keep := fun h hT hd => ⟨h.1.keep hT hd, h.2⟩
  inb := fun h => h.1.inb
  new := fun w base _ hb => (pnew_any w base hb).mono fun e w' ⟨R, h1, h2⟩ => ⟨R, h1, h2.domK bareT_new⟩
  make := fun w base R S t x aa an ac ka kn kc _ h hG hF hb hA hnil hc => (pmake_any w base R S t h.1 hG hF.len6 hb x aa an ac ka kn kc hA hc).mono fun e w' ⟨h1, h2⟩ => ⟨h1, h2.domK (h.2.make x)⟩
  put := fun w base R S t p b i _ h hG hF hb => (pput_any w base R S t p b i h.1 hG hF.len6).mono fun e w' ⟨h1, h2⟩ => ⟨h1, h2.domK (h.2.same (put_nd hG p b i))⟩
  write := fun w base R S t p b s _ h hG hF hb hs => (pwrite_any w base R S t p b s h.1 hG (by have := hF.few; omega) hb hs hF.text).mono fun e w' ⟨h1, h2⟩ => ⟨h1, h2.domK (h.2.write hG p b s)⟩
  parent := fun w base R S t i _ h hG hF => by
    obtain ⟨g, cap, rs, hR⟩ := h.1.read hG hF.len6
    exact (pparent_any w base R g cap S rs t i hR).mono fun e w' ⟨h1, h2⟩ => ⟨h1, by rw [h2]; exact Below.refl _ _⟩
  whole := fun t hG hF => by
    by_cases hb : BareT t
    · obtain ⟨D, hD⟩ := pwhole_any hG hF.len6 hF.light hb
      exact ⟨D, fun d hd w base R S _ h => hD d hd 0 (List.length_pos_iff.2 hG.some) w base R S h.1⟩
    · exact ⟨0, fun d _ w base R S _ h => absurd h.2 hb⟩
end Go.Proofs.Ytlgmjnnfndedbaa
