/- Plain Lean: putting, moving and writing in a tree of nodes by numbers, and what holds behind it. Plain Lean: what holds of a tree of nodes by numbers behind Put, Move and Write. -/
import Derived.Test.YtlgmjnnfndedbaaTreePl
namespace Go.Proofs.Ytlgmjnnfndedbaa.Dom
open Go.Lib
set_option maxRecDepth 100000
set_option linter.unusedVariables false

theorem Up.trans {t : T} {a b c : Nat} (h : Up t a b) (g : Up t b c) : Up t a c := by
  induction h with
  | refl x => exact g
  | step e _ ih => exact .step e (ih g)
/-- Who stands within a node, does so over each of those it stands in. -/
theorem Up.tail {t : T} {x q o : Nat} (e : parAt t x = (q : Nat)) (h : Up t x o) : x = o ∨ Up t q o := by
  cases h with
  | refl => exact .inl rfl
  | step e2 g =>
    right
    rw [e] at e2
    have := Int.ofNat.inj e2
    subst this
    exact g
theorem Up.rank {t : T} {r : Nat → Nat} (hr : ∀ k (p : Nat), parAt t k = (p : Nat) → r p < r k) {x o : Nat} (h : Up t x o) : r o ≤ r x := by
  induction h with
  | refl x => exact Nat.le_refl _
  | step e _ ih => have := hr _ _ e; omega
/-- What putting a node changes, that stood nowhere. -/
structure PutE (t u : T) (i p k : Nat) : Prop where
  len : u.length = t.length
  par : ∀ j, parAt u j = if j = i then (p : Int) else parAt t j
  kids : ∀ j, kidsAt u j = if j = p then (kidsAt t p).take k ++ i :: (kidsAt t p).drop k else kidsAt t j
  nd : ∀ j, (nodeAt u j).nd = (nodeAt t j).nd
def insT (t : T) (p k i : Nat) : T := upd (upd t p fun x => { x with kids := x.kids.take k ++ i :: x.kids.drop k }) i fun x => { x with par := p }
theorem ins_says {t : T} {i p : Nat} (k : Nat) (hi : i < t.length) (hp : p < t.length) (hne : p ≠ i) : PutE t (insT t p k i) i p k := by
  have hat : ∀ j, nodeAt (insT t p k i) j = if j = i then { nodeAt t i with par := p } else if j = p then { nodeAt t p with kids := (nodeAt t p).kids.take k ++ i :: (nodeAt t p).kids.drop k } else nodeAt t j := by
    intro j
    unfold insT
    rw [upd_at _ _ _ (by rw [upd_len]; exact hi), upd_at _ _ _ hp, upd_at _ _ _ hp, if_neg (show ¬ i = p from fun e => hne e.symm)]
  refine ⟨by unfold insT; rw [upd_len, upd_len], fun k => ?_, fun j => ?_, fun j => ?_⟩
  · unfold parAt
    rw [hat]
    split
    · rfl
    · split
      · rename_i g; rw [g]
      · rfl
  · unfold kidsAt
    rw [hat]
    split
    · rename_i g
      subst g
      rw [if_neg (fun e => hne e.symm)]
    · split <;> rfl
  · rw [hat]
    split
    · rename_i g; rw [g]
    · split
      · rename_i g; rw [g]
      · rfl
theorem mem_ins {l : List Nat} {k i x : Nat} : x ∈ l.take k ++ i :: l.drop k ↔ x = i ∨ x ∈ l := by
  rw [List.mem_append, List.mem_cons]
  constructor
  · rintro (h | h | h)
    · exact .inr (List.mem_of_mem_take h)
    · exact .inl h
    · exact .inr (List.mem_of_mem_drop h)
  · rintro (h | h)
    · exact .inr (.inl h)
    · rw [← List.take_append_drop k l, List.mem_append] at h
      exact h.elim .inl fun h => .inr (.inr h)
theorem nodup_ins {l : List Nat} {k i : Nat} (h : l.Nodup) (hi : i ∉ l) : (l.take k ++ i :: l.drop k).Nodup := by
  have hp : List.Perm (l.take k ++ i :: l.drop k) (i :: l) := by
    have := @List.perm_middle _ i (l.take k) (l.drop k)
    rwa [List.take_append_drop] at this
  rw [hp.nodup_iff, List.nodup_cons]
  exact ⟨hi, h⟩
open Classical in
theorem PutE.good {t u : T} {i p k : Nat} (h : Good t) (c : PutE t u i p k) (hi : i < t.length) (hp : p < t.length) (hk0 : p = 0 ∨ kindAt t p = 1) (h0 : i ≠ 0) (hn : parAt t i = -1) (hup : ¬ Up t p i) : Good u := by
  have hne : p ≠ i := fun e => hup (e ▸ .refl p)
  have hk : ∀ j, kindAt u j = kindAt t j := fun j => by unfold kindAt; rw [c.nd]
  have hno : ∀ j, i ∉ kidsAt t j := fun j g => by
    have := (h.kid j i g).2
    omega
  refine ⟨fun g => ?_, ?_, fun j h1 h2 => by rw [hk]; exact h.kind j h1 (by rw [← c.len]; exact h2), fun j x g => ?_, fun j => ?_, fun x => ?_, ?_⟩
  · have := c.len
    rw [g] at this
    simp at this
    omega
  · rw [c.par, if_neg (by omega)]
    exact h.root
  · rw [c.kids] at g
    rw [c.par, c.len]
    split at g
    · rename_i ej
      subst ej
      rcases mem_ins.1 g with rfl | g
      · rw [if_pos rfl]
        exact ⟨hi, rfl⟩
      · obtain ⟨g1, g2⟩ := h.kid _ x g
        rw [if_neg (fun e => hno _ (e ▸ g))]
        exact ⟨g1, g2⟩
    · obtain ⟨g1, g2⟩ := h.kid _ x g
      rw [if_neg (fun e => hno _ (e ▸ g))]
      exact ⟨g1, g2⟩
  · rw [c.kids]
    split
    · exact nodup_ins (h.nodup p) (hno p)
    · exact h.nodup j
  · rw [c.par]
    split
    · rename_i e
      subst e
      exact .inr ⟨p, by rw [c.len]; exact hp, rfl, by rw [c.kids, if_pos rfl]; exact mem_ins.2 (.inl rfl), by rw [hk]; exact hk0⟩
    · refine (h.par x).imp id fun ⟨q, g1, g2, g3, g4⟩ => ⟨q, by rw [c.len]; exact g1, g2, ?_, by rw [hk]; exact g4⟩
      rw [c.kids]
      split
      · rename_i eq
        subst eq
        exact mem_ins.2 (.inr g3)
      · exact g3
  · obtain ⟨r, hr⟩ := h.ends
    refine ⟨fun x => if Up t x i then r x + r p + 1 else r x, fun x q g => ?_⟩
    rw [c.par] at g
    show (if Up t q i then r q + r p + 1 else r q) < if Up t x i then r x + r p + 1 else r x
    split at g
    · rename_i e
      obtain rfl : p = q := Int.ofNat.inj g
      rw [if_neg hup, e, if_pos (.refl i)]
      omega
    · have hq := hr x q g
      by_cases hu : Up t q i
      · rw [if_pos hu, if_pos (.step g hu)]
        omega
      · rw [if_neg hu]
        split <;> omega
end Go.Proofs.Ytlgmjnnfndedbaa.Dom
namespace Go.Proofs.Ytlgmjnnfndedbaa.Dom
open Go.Lib
set_option maxRecDepth 100000
set_option linter.unusedVariables false

theorem CutE.up {t u : T} {i p x o : Nat} (c : CutE t u i p) (h : Up u x o) : Up t x o := by
  induction h with
  | refl x => exact .refl x
  | step e _ ih =>
    rw [c.par] at e
    split at e
    · omega
    · exact .step e ih
/-- Behind a cut, or with none where it stood nowhere. -/
theorem cut_is {t : T} (h : Good t) {i : Nat} (hi : i < t.length) : Good (cutT t i).1 ∧ (cutT t i).1.length = t.length ∧ parAt (cutT t i).1 i = -1 ∧ (∀ j, kindAt (cutT t i).1 j = kindAt t j) ∧ (∀ x o, Up (cutT t i).1 x o → Up t x o) := by
  rcases h.par i with e | ⟨p, _, e, _⟩
  · have : cutT t i = (t, false) := by
      unfold cutT
      rw [show ((i : Int)).toNat = i by omega, e, if_pos (.inr (by omega))]
    rw [this]
    exact ⟨h, rfl, e, fun _ => rfl, fun _ _ g => g⟩
  · have c := (cut_says h e).2
    exact ⟨c.good h e, c.len, by rw [c.par, if_pos rfl], fun j => by unfold kindAt; rw [c.nd], fun x o g => c.up g⟩
theorem good_put {t : T} (h : Good t) (p b i : Int) : Good (putT t p b i).1 := by
  unfold putT
  split
  · exact h
  · rename_i g
    obtain ⟨hp, hi, h0, _, hup, _⟩ : holds t p ∧ there t i ∧ i ≠ 0 ∧ b ≠ i ∧ ¬ Up t p.toNat i.toNat ∧ ¬ placeL (kidsAt t p.toNat) b < 0 := by
      refine ⟨Classical.byContradiction fun x => g (.inl x), Classical.byContradiction fun x => g (.inr (.inl x)), fun x => g (.inr (.inr (.inl x))), fun x => g (.inr (.inr (.inr (.inl x)))), fun x => g (.inr (.inr (.inr (.inr (.inl x))))), fun x => g (.inr (.inr (.inr (.inr (.inr x)))))⟩
    obtain ⟨⟨p1, p2⟩, p3⟩ := hp
    obtain ⟨i1, i2⟩ := hi
    have C := cut_is h (show i.toNat < t.length by omega)
    rw [show ((i.toNat : Nat) : Int) = i by omega] at C
    obtain ⟨c1, c2, c3, c4, c5⟩ := C
    have P := ins_says (t := (cutT t i).1) (i := i.toNat) (p := p.toNat) (placeL (kidsAt (cutT t i).1 p.toNat) b).toNat (by omega) (by omega) (fun e => hup (by rw [e]; exact .refl _))
    have := P.good c1 (by omega) (by omega) (by rw [c4]; exact p3.imp (by omega) id) (by omega) c3 (fun g => hup (c5 _ _ g))
    rw [show p = ((p.toNat : Nat) : Int) by omega]
    exact this
/-- What stays where a text grows. -/
theorem good_text {t : T} (h : Good t) (i : Nat) (s : List UInt8) : Good (upd t i fun x => addText x s) := by
  by_cases hi : i < t.length
  · have hp : ∀ j, parAt (upd t i fun x => addText x s) j = parAt t j := fun j => by
      unfold parAt
      rw [upd_at _ _ _ hi]
      split
      · rename_i e; rw [e]; rfl
      · rfl
    have hk : ∀ j, kidsAt (upd t i fun x => addText x s) j = kidsAt t j := fun j => by
      unfold kidsAt
      rw [upd_at _ _ _ hi]
      split
      · rename_i e; rw [e]; rfl
      · rfl
    have hd : ∀ j, kindAt (upd t i fun x => addText x s) j = kindAt t j := fun j => by
      unfold kindAt
      rw [upd_at _ _ _ hi]
      split
      · rename_i e; rw [e]; rfl
      · rfl
    have hl := upd_len t i fun x => addText x s
    refine ⟨fun g => ?_, by rw [hp]; exact h.root, fun j h1 h2 => by rw [hd]; exact h.kind j h1 (by rw [← hl]; exact h2), fun j k g => ?_, fun j => by rw [hk]; exact h.nodup j, fun k => ?_, ?_⟩
    · rw [g] at hl
      simp at hl
      omega
    · rw [hk] at g
      obtain ⟨g1, g2⟩ := h.kid j k g
      exact ⟨by rw [hl]; exact g1, by rw [hp]; exact g2⟩
    · rw [hp]
      exact (h.par k).imp id fun ⟨p, g1, g2, g3, g4⟩ => ⟨p, by rw [hl]; exact g1, g2, by rw [hk]; exact g3, by rw [hd]; exact g4⟩
    · obtain ⟨r, hr⟩ := h.ends
      exact ⟨r, fun k p e => hr k p (by rw [← hp]; exact e)⟩
  · have : upd t i (fun x => addText x s) = t := by
      unfold upd
      apply List.ext_getElem?
      intro j
      rw [List.getElem?_modify]
      by_cases e : i = j
      · subst e
        rw [List.getElem?_eq_none (by omega)]
        rfl
      · simp [e]
    rw [this]
    exact h
theorem good_write {t : T} (h : Good t) (p b : Int) (s : List UInt8) : Good (writeT t p b s).1 := by
  unfold writeT
  split
  · exact h
  · split
    · exact h
    · dsimp only
      split
      · exact good_text h _ s
      · exact good_put (good_snoc h _ (by rw [bareP_kind]; show 1 ≤ 2 ∧ 2 ≤ 3; omega)) _ _ _
end Go.Proofs.Ytlgmjnnfndedbaa.Dom
