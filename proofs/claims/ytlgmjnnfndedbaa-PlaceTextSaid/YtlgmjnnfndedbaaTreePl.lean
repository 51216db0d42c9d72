/- Plain Lean: a tree of nodes by numbers, as layer 10's chapter has it, and what holds of it behind any calls. Nothing of a program stands here. -/
import Derived.Test.YtlgmjnnfndedbaaNodeM
namespace Go.Proofs.Ytlgmjnnfndedbaa.Dom
open Go.Lib
set_option maxRecDepth 100000
set_option linter.unusedVariables false

/-- One of a tree: what it is, where it stands (-1: nowhere), what stands in it. -/
structure TN where
  nd : N
  par : Int
  kids : List Nat
def TN.none : TN := ⟨.mk 0 0 [] [] [] [], -1, []⟩
abbrev T := List TN
def tNew : T := [TN.none]
def there (t : T) (i : Int) : Prop := 0 ≤ i ∧ i < t.length
instance (t : T) (i : Int) : Decidable (there t i) := inferInstanceAs (Decidable (_ ∧ _))
def nodeAt (t : T) (i : Nat) : TN := t.getD i TN.none
def parAt (t : T) (i : Nat) : Int := (nodeAt t i).par
def kidsAt (t : T) (i : Nat) : List Nat := (nodeAt t i).kids
def kindAt (t : T) (i : Nat) : Nat := (nodeAt t i).nd.kind
def holds (t : T) (i : Int) : Prop := there t i ∧ (i = 0 ∨ kindAt t i.toNat = 1)
instance (t : T) (i : Int) : Decidable (holds t i) := inferInstanceAs (Decidable (_ ∧ _))
/-- What its kind has, without kids. -/
def bareP (x : N) : N := if x.kind = 1 then .mk x.kind x.space x.name x.atts [] [] else .mk x.kind 0 [] [] x.text []
def makeT (t : T) (x : N) : T × Int := if x.kind < 1 ∨ 3 < x.kind then (t, -1) else (t ++ [⟨bareP x, -1, []⟩], t.length)
/-- It is the other one, or stands within it. -/
inductive Up (t : T) : Nat → Nat → Prop where
  | refl (x : Nat) : Up t x x
  | step {x q o : Nat} (h : parAt t x = (q : Nat)) (g : Up t q o) : Up t x o
def placeF (k : Int) : Nat → List Nat → Int
  | _, [] => -1
  | i, x :: r => if (x : Int) = k then i else placeF k (i + 1) r
def placeL (l : List Nat) (k : Int) : Int := if k = -1 then (l.length : Int) else placeF k 0 l
def upd (t : T) (i : Nat) (f : TN → TN) : T := t.modify i f
def cutT (t : T) (i : Int) : T × Bool :=
  if ¬ there t i ∨ parAt t i.toNat < 0 then (t, false) else
  (upd (upd t (parAt t i.toNat).toNat fun x => { x with kids := x.kids.erase i.toNat }) i.toNat fun x => { x with par := -1 }, true)
open Classical in
noncomputable def putT (t : T) (p b i : Int) : T × Bool :=
  if ¬ holds t p ∨ ¬ there t i ∨ i = 0 ∨ b = i ∨ Up t p.toNat i.toNat ∨ placeL (kidsAt t p.toNat) b < 0 then (t, false) else
  let u := (cutT t i).1
  let k := (placeL (kidsAt u p.toNat) b).toNat
  (upd (upd u p.toNat fun x => { x with kids := x.kids.take k ++ i.toNat :: x.kids.drop k }) i.toNat fun x => { x with par := p }, true)
def addText (x : TN) (s : List UInt8) : TN := { x with nd := .mk x.nd.kind x.nd.space x.nd.name x.nd.atts (x.nd.text ++ s) x.nd.kids }
noncomputable def writeT (t : T) (p b : Int) (s : List UInt8) : T × Bool :=
  if ¬ holds t p ∨ placeL (kidsAt t p.toNat) b < 0 then (t, false) else
  if s = [] then (t, true) else
  let k := (placeL (kidsAt t p.toNat) b).toNat
  if h : 0 < k ∧ kindAt t ((kidsAt t p.toNat).getD (k - 1) 0) = 2 then (upd t ((kidsAt t p.toNat).getD (k - 1) 0) fun x => addText x s, true) else
  putT (t ++ [⟨bareP (.mk 2 0 [] [] s []), -1, []⟩]) p b t.length
def parentT (t : T) (i : Int) : Int := if there t i then parAt t i.toNat else -1
def kidsT (t : T) (i : Int) : List Nat := if there t i then kidsAt t i.toNat else []
def withKids (x : N) (l : List N) : N := .mk x.kind x.space x.name x.atts x.text l
/-- What stands in it, with all, so deep at most. -/
def wholeF : Nat → T → Nat → List N
  | 0, _, _ => []
  | f + 1, t, i => (kidsAt t i).map fun k => withKids (bareP (nodeAt t k).nd) (wholeF f t k)

/-! ### What holds of every tree that calls made -/
structure Good (t : T) : Prop where
  some : t ≠ []
  root : parAt t 0 = -1
  kind : ∀ i, 0 < i → i < t.length → 1 ≤ kindAt t i ∧ kindAt t i ≤ 3
  kid : ∀ i k, k ∈ kidsAt t i → k < t.length ∧ parAt t k = i
  nodup : ∀ i, (kidsAt t i).Nodup
  par : ∀ k, parAt t k = -1 ∨ ∃ p, p < t.length ∧ parAt t k = (p : Nat) ∧ k ∈ kidsAt t p ∧ (p = 0 ∨ kindAt t p = 1)
  ends : ∃ r : Nat → Nat, ∀ k (p : Nat), parAt t k = (p : Nat) → r p < r k
theorem nodeAt_none {t : T} {i : Nat} (h : t.length ≤ i) : nodeAt t i = TN.none := by
  unfold nodeAt
  rw [List.getD_eq_getElem?_getD, List.getElem?_eq_none h]
  rfl
theorem nodeAt_snoc (t : T) (x : TN) (i : Nat) : nodeAt (t ++ [x]) i = if i = t.length then x else nodeAt t i := by
  unfold nodeAt
  simp only [List.getD_eq_getElem?_getD]
  by_cases h : i < t.length
  · rw [List.getElem?_append_left h, if_neg (by omega)]
  · by_cases h2 : i = t.length
    · subst h2
      rw [if_pos rfl, List.getElem?_append_right (Nat.le_refl _)]
      simp
    · rw [if_neg h2, List.getElem?_eq_none (by simp; omega), List.getElem?_eq_none (by omega)]
theorem good_new : Good tNew where
  some := by simp [tNew]
  root := rfl
  kind := fun i h1 h2 => by simp [tNew] at h2; omega
  kid := fun i k h => by
    rcases Nat.eq_zero_or_pos i with rfl | hi
    · simp [kidsAt, nodeAt, tNew, TN.none] at h
    · rw [kidsAt, nodeAt_none (by simp [tNew]; omega)] at h
      simp [TN.none] at h
  nodup := fun i => by
    rcases Nat.eq_zero_or_pos i with rfl | hi
    · simp [kidsAt, nodeAt, tNew, TN.none]
    · rw [kidsAt, nodeAt_none (by simp [tNew]; omega)]
      simp [TN.none]
  par := fun k => .inl (by
    rcases Nat.eq_zero_or_pos k with rfl | hi
    · rfl
    · rw [parAt, nodeAt_none (by simp [tNew]; omega)]
      rfl)
  ends := ⟨fun _ => 0, fun k p h => by
    exfalso
    have : parAt tNew k = -1 := by
      rcases Nat.eq_zero_or_pos k with rfl | hi
      · rfl
      · rw [parAt, nodeAt_none (by simp [tNew]; omega)]
        rfl
    omega⟩
/-- A new node, that stands nowhere. -/
theorem good_snoc {t : T} (h : Good t) (x : N) (hx : 1 ≤ x.kind ∧ x.kind ≤ 3) : Good (t ++ [⟨x, -1, []⟩]) := by
  have hk : ∀ i, kidsAt (t ++ [⟨x, -1, []⟩]) i = kidsAt t i := by
    intro i
    unfold kidsAt
    rw [nodeAt_snoc]
    split
    · rename_i e
      subst e
      rw [nodeAt_none (Nat.le_refl _)]
      rfl
    · rfl
  have hp : ∀ i, parAt (t ++ [⟨x, -1, []⟩]) i = parAt t i := by
    intro i
    unfold parAt
    rw [nodeAt_snoc]
    split
    · rename_i e
      subst e
      rw [nodeAt_none (Nat.le_refl _)]
      rfl
    · rfl
  have hd : ∀ i, i < t.length → kindAt (t ++ [⟨x, -1, []⟩]) i = kindAt t i := by
    intro i hi
    unfold kindAt
    rw [nodeAt_snoc, if_neg (by omega)]
  have hl : (t ++ [(⟨x, -1, []⟩ : TN)]).length = t.length + 1 := by simp
  have h0 : 0 < t.length := List.length_pos_iff.2 h.some
  refine ⟨by simp, by rw [hp]; exact h.root, fun i h1 h2 => ?_, fun i k hkk => ?_, fun i => by rw [hk]; exact h.nodup i, fun k => ?_, ?_⟩
  · by_cases hi : i < t.length
    · rw [hd i hi]
      exact h.kind i h1 hi
    · obtain rfl : i = t.length := by omega
      unfold kindAt
      rw [nodeAt_snoc, if_pos rfl]
      exact hx
  · rw [hk] at hkk
    obtain ⟨g1, g2⟩ := h.kid i k hkk
    exact ⟨by omega, by rw [hp]; exact g2⟩
  · rw [hp]
    refine (h.par k).imp id fun ⟨p, g1, g2, g3, g4⟩ => ⟨p, by omega, g2, by rw [hk]; exact g3, g4.imp id fun g => by rw [hd p g1]; exact g⟩
  · obtain ⟨r, r2⟩ := h.ends
    exact ⟨r, fun k p e => r2 k p (by rw [← hp]; exact e)⟩
theorem bareP_kind (x : N) : (bareP x).kind = x.kind := by unfold bareP; split <;> rfl
theorem good_make {t : T} (h : Good t) (x : N) : Good (makeT t x).1 := by
  unfold makeT
  split
  · exact h
  · exact good_snoc h _ (by rw [bareP_kind]; omega)
theorem upd_len (t : T) (j : Nat) (f : TN → TN) : (upd t j f).length = t.length := by simp [upd]
theorem upd_at (t : T) (j : Nat) (f : TN → TN) (hj : j < t.length) (i : Nat) : nodeAt (upd t j f) i = if i = j then f (nodeAt t j) else nodeAt t i := by
  unfold nodeAt upd
  simp only [List.getD_eq_getElem?_getD, List.getElem?_modify]
  by_cases h : i = j
  · subst h
    rw [if_pos rfl, List.getElem?_eq_getElem hj]
    simp
  · rw [if_neg h]
    have : ¬ j = i := fun e => h e.symm
    simp [this]
theorem Good.far {t : T} (h : Good t) {k : Nat} (p : Nat) (e : parAt t k = (p : Nat)) : p ≠ k := by
  obtain ⟨r, hr⟩ := h.ends
  rintro rfl
  exact absurd (hr _ _ e) (Nat.lt_irrefl _)
/-- Who stands somewhere is one of the tree. -/
theorem par_lt {t : T} {k p : Nat} (e : parAt t k = (p : Nat)) : k < t.length := by
  apply Decidable.byContradiction
  intro hk
  rw [parAt, nodeAt_none (by omega)] at e
  have : (-1 : Int) = (p : Nat) := e
  omega
theorem Good.par_there {t : T} (h : Good t) {k p : Nat} (e : parAt t k = (p : Nat)) : p < t.length ∧ k ∈ kidsAt t p ∧ (p = 0 ∨ kindAt t p = 1) := by
  rcases h.par k with g | ⟨q, g1, g2, g3, g4⟩
  · rw [g] at e
    omega
  · obtain rfl : q = p := by rw [g2] at e; omega
    exact ⟨g1, g3, g4⟩
/-- What a cut changes. -/
structure CutE (t u : T) (i p : Nat) : Prop where
  len : u.length = t.length
  par : ∀ k, parAt u k = if k = i then -1 else parAt t k
  kids : ∀ j, kidsAt u j = if j = p then (kidsAt t p).erase i else kidsAt t j
  nd : ∀ j, (nodeAt u j).nd = (nodeAt t j).nd
theorem cut_says {t : T} (h : Good t) {i p : Nat} (e : parAt t i = (p : Nat)) : cutT t i = ((cutT t i).1, true) ∧ CutE t (cutT t i).1 i p := by
  have hi := par_lt e
  obtain ⟨hp, _, _⟩ := h.par_there e
  have hne := h.far p e
  have h1 : cutT t i = (upd (upd t p fun x => { x with kids := x.kids.erase i }) i fun x => { x with par := -1 }, true) := by
    unfold cutT
    rw [if_neg (by unfold there; rw [show ((i : Int)).toNat = i by omega, e]; omega), show ((i : Int)).toNat = i by omega, e, show ((p : Int)).toNat = p by omega]
  rw [h1]
  have hat : ∀ j, nodeAt (upd (upd t p fun x => { x with kids := x.kids.erase i }) i fun x => { x with par := -1 }) j = if j = i then { nodeAt t i with par := -1 } else if j = p then { nodeAt t p with kids := (nodeAt t p).kids.erase i } else nodeAt t j := by
    intro j
    rw [upd_at _ _ _ (by rw [upd_len]; exact hi), upd_at _ _ _ hp, upd_at _ _ _ hp, if_neg (show ¬ i = p from fun e => hne e.symm)]
  refine ⟨rfl, by rw [upd_len, upd_len], fun k => ?_, fun j => ?_, fun j => ?_⟩
  · unfold parAt
    rw [hat]
    split
    · rfl
    · split
      · rename_i g; rw [g]
      · rfl
  · unfold kidsAt
    rw [hat]
    split
    · rename_i g
      subst g
      rw [if_neg (fun e => hne e.symm)]
    · split <;> rfl
  · rw [hat]
    split
    · rename_i g; rw [g]
    · split
      · rename_i g; rw [g]
      · rfl
theorem CutE.good {t u : T} {i p : Nat} (h : Good t) (e : parAt t i = (p : Nat)) (c : CutE t u i p) : Good u := by
  have hi := par_lt e
  have hk : ∀ j, kindAt u j = kindAt t j := fun j => by unfold kindAt; rw [c.nd]
  refine ⟨fun g => ?_, ?_, fun j h1 h2 => by rw [hk]; exact h.kind j h1 (by rw [← c.len]; exact h2), fun j k g => ?_, fun j => ?_, fun k => ?_, ?_⟩
  · have := c.len
    rw [g] at this
    simp at this
    omega
  · rw [c.par]
    split
    · rfl
    · exact h.root
  · rw [c.kids] at g
    rw [c.par, c.len]
    split at g
    · rename_i ej
      subst ej
      obtain ⟨g1, g2⟩ := h.kid _ k (List.mem_of_mem_erase g)
      have : k ≠ i := fun ek => by
        subst ek
        exact (h.nodup _).not_mem_erase g
      rw [if_neg this]
      exact ⟨g1, g2⟩
    · rename_i ej
      obtain ⟨g1, g2⟩ := h.kid _ k g
      have : k ≠ i := fun ek => by
        subst ek
        rw [e] at g2
        omega
      rw [if_neg this]
      exact ⟨g1, g2⟩
  · rw [c.kids]
    split
    · exact (h.nodup p).erase i
    · exact h.nodup j
  · rw [c.par]
    split
    · exact .inl rfl
    · rename_i ek
      refine (h.par k).imp id fun ⟨q, g1, g2, g3, g4⟩ => ⟨q, by rw [c.len]; exact g1, g2, ?_, by rw [hk]; exact g4⟩
      rw [c.kids]
      split
      · rename_i eq
        subst eq
        exact (List.mem_erase_of_ne ek).2 g3
      · exact g3
  · obtain ⟨r, hr⟩ := h.ends
    refine ⟨r, fun k q g => ?_⟩
    rw [c.par] at g
    split at g
    · omega
    · exact hr k q g
end Go.Proofs.Ytlgmjnnfndedbaa.Dom
