/- Plain Lean: what package marks says, over lists of marks. Nothing of a program stands here. -/
import Derived.Test.YtmgbjkekfejnfaaTxt
namespace Go.Proofs.Ytmgbjkekfejnfaa.Mk
open Go.Lib
set_option maxRecDepth 100000
set_option linter.unusedVariables false

/-- A mark. -/
structure M where
  id : Int
  name : List UInt8
  atts : List (List UInt8 × List UInt8)
/-- The place behind the last marker among the first n. -/
def behind (l : List M) : Nat → Nat
  | 0 => 0
  | n + 1 => match l[n]? with
    | none => 0
    | some x => if x.id < 0 then n + 1 else behind l n
def alike (a b : M) : Bool := decide (a.name = b.name) && decide (a.atts.length = b.atts.length) && a.atts.all fun p => decide (p ∈ b.atts)
/-- How many from b on among the first k are alike, and which is the first; -1: none. -/
def cntK (l : List M) (m : M) (b : Nat) : Nat → Nat × Int
  | 0 => (0, -1)
  | k + 1 => if k < b then (0, -1) else match l[k]? with
    | none => cntK l m b k
    | some x => if alike m x then ((cntK l m b k).1 + 1, if (cntK l m b k).2 < 0 then (k : Int) else (cntK l m b k).2) else cntK l m b k
/-- The first k without the one at a place. -/
def keepK {α : Type} (l : List α) (skip : Int) : Nat → List α
  | 0 => []
  | k + 1 => match l[k]? with
    | none => keepK l skip k
    | some x => if (k : Int) = skip then keepK l skip k else keepK l skip k ++ [x]
/-- The place that Push leaves out; -1: none. -/
def skipI (l : List M) (m : M) : Int := if m.id < 0 then -1 else if (cntK l m (behind l l.length) l.length).1 < 3 then -1 else (cntK l m (behind l l.length) l.length).2
def pushL (l : List M) (m : M) : List M := keepK l (skipI l m) l.length ++ [m]
def clearL (l : List M) : List M := l.take (behind l l.length - 1)
def lastI (l : List M) (name : List UInt8) (b : Nat) : Nat → Int
  | 0 => -1
  | k + 1 => if k < b then -1 else match l[k]? with
    | none => -1
    | some x => if x.name = name then (k : Int) else lastI l name b k
/-- From k on, at most n. -/
def findI (l : List M) (id : Int) (k : Nat) : Nat → Int
  | 0 => -1
  | n + 1 => match l[k]? with
    | none => -1
    | some x => if x.id = id then (k : Int) else findI l id (k + 1) n
def lostN (l : List M) (ids : List Int) : Nat → Nat
  | 0 => 0
  | k + 1 => match l[k]? with
    | none => 0
    | some x => if x.id < 0 ∨ x.id ∈ ids then k + 1 else lostN l ids k
/-! ### Steps -/
theorem behind_step {l : List M} {n : Nat} {x : M} (hx : l[n]? = some x) : behind l (n + 1) = if x.id < 0 then n + 1 else behind l n := by simp [behind, hx]
theorem behind_le (l : List M) : ∀ n, behind l n ≤ n
  | 0 => Nat.le_refl _
  | n + 1 => by
    unfold behind
    split
    · omega
    · split
      · exact Nat.le_refl _
      · exact Nat.le_succ_of_le (behind_le l n)
theorem cntK_start (l : List M) (m : M) (b : Nat) : cntK l m b b = (0, -1) := by
  cases b with
  | zero => rfl
  | succ b => unfold cntK; rw [if_pos (Nat.lt_succ_self b)]
theorem cntK_step {l : List M} {m : M} {b k : Nat} {x : M} (hb : b ≤ k) (hx : l[k]? = some x) : cntK l m b (k + 1) = if alike m x then ((cntK l m b k).1 + 1, if (cntK l m b k).2 < 0 then (k : Int) else (cntK l m b k).2) else cntK l m b k := by
  conv => lhs; unfold cntK
  rw [if_neg (by omega), hx]
theorem keepK_step {α : Type} {l : List α} {skip : Int} {k : Nat} {x : α} (hx : l[k]? = some x) : keepK l skip (k + 1) = if (k : Int) = skip then keepK l skip k else keepK l skip k ++ [x] := by
  conv => lhs; unfold keepK
  rw [hx]
theorem lastI_step {l : List M} {name : List UInt8} {b k : Nat} {x : M} (hb : b ≤ k) (hx : l[k]? = some x) : lastI l name b (k + 1) = if x.name = name then (k : Int) else lastI l name b k := by
  conv => lhs; unfold lastI
  rw [if_neg (by omega), hx]
theorem lastI_stop (l : List M) (name : List UInt8) {b k : Nat} (hb : k ≤ b) : lastI l name b k = -1 := by
  cases k with
  | zero => rfl
  | succ k => unfold lastI; rw [if_pos (by omega)]
theorem findI_step {l : List M} {id : Int} {k n : Nat} {x : M} (hx : l[k]? = some x) : findI l id k (n + 1) = if x.id = id then (k : Int) else findI l id (k + 1) n := by simp [findI, hx]
theorem lostN_step {l : List M} {ids : List Int} {k : Nat} {x : M} (hx : l[k]? = some x) : lostN l ids (k + 1) = if x.id < 0 ∨ x.id ∈ ids then k + 1 else lostN l ids k := by simp [lostN, hx]
/-! ### What is left out -/
theorem keepK_none {α : Type} (l : List α) : ∀ k, keepK l (-1) k = l.take k
  | 0 => by simp [keepK]
  | k + 1 => by
    cases hx : l[k]? with
    | none =>
      have : l.length ≤ k := List.getElem?_eq_none_iff.1 hx
      conv => lhs; unfold keepK
      rw [hx, keepK_none l k, List.take_of_length_le this, List.take_of_length_le (by omega)]
    | some x => rw [keepK_step hx, if_neg (by omega), keepK_none l k, List.take_add_one, hx]; rfl
theorem keepK_at {α : Type} (A : List α) (x : α) (B : List α) : ∀ k, keepK (A ++ x :: B) (A.length : Int) k = if k ≤ A.length then A.take k else A ++ B.take (k - A.length - 1)
  | 0 => by simp [keepK]
  | k + 1 => by
    cases hy : (A ++ x :: B)[k]? with
    | none =>
      have h := List.getElem?_eq_none_iff.1 hy
      simp at h
      conv => lhs; unfold keepK
      rw [hy]
      show keepK (A ++ x :: B) (A.length : Int) k = _
      rw [keepK_at A x B k, if_neg (by omega), if_neg (by omega), List.take_of_length_le (by omega), List.take_of_length_le (by omega)]
    | some y =>
      rw [keepK_step hy, keepK_at A x B k]
      by_cases h1 : k < A.length
      · rw [if_neg (by omega), if_pos (by omega), if_pos (by omega)]
        rw [List.getElem?_append_left h1] at hy
        rw [List.take_add_one, hy]
        rfl
      · by_cases h2 : k = A.length
        · subst h2
          rw [if_pos rfl, if_pos (Nat.le_refl _), if_neg (by omega), List.take_of_length_le (Nat.le_refl _)]
          simp
        · rw [if_neg (by omega), if_neg (by omega), if_neg (by omega)]
          rw [List.getElem?_append_right (by omega), show k - A.length = (k - A.length - 1) + 1 by omega, List.getElem?_cons_succ] at hy
          rw [show k + 1 - A.length - 1 = (k - A.length - 1) + 1 by omega, List.take_add_one, hy, List.append_assoc]
          rfl
theorem cnt_spec (l : List M) (m : M) (b : Nat) : ∀ k, ((cntK l m b k).2 = -1 ∧ (cntK l m b k).1 = 0) ∨ ∃ (j : Nat) (x : M), (cntK l m b k).2 = j ∧ b ≤ j ∧ j < k ∧ l[j]? = some x ∧ alike m x = true
  | 0 => .inl ⟨rfl, rfl⟩
  | k + 1 => by
    by_cases hb : k < b
    · exact .inl (by unfold cntK; rw [if_pos hb]; exact ⟨rfl, rfl⟩)
    cases hx : l[k]? with
    | none =>
      have e : cntK l m b (k + 1) = cntK l m b k := by
        conv => lhs; unfold cntK
        rw [if_neg hb, hx]
      rw [e]
      exact (cnt_spec l m b k).imp id fun ⟨j, y, h1, h2, h3, h4⟩ => ⟨j, y, h1, h2, by omega, h4⟩
    | some x =>
      rw [cntK_step (by omega) hx]
      by_cases ha : alike m x = true
      · rw [if_pos ha]
        by_cases h0 : (cntK l m b k).2 < 0
        · exact .inr ⟨k, x, by simp only; rw [if_pos h0], by omega, by omega, hx, ha⟩
        · rcases cnt_spec l m b k with ⟨h1, _⟩ | ⟨j, y, h1, h2, h3, h4⟩
          · omega
          · exact .inr ⟨j, y, by simp only; rw [if_neg h0]; exact h1, h2, by omega, h4⟩
      · rw [if_neg ha]
        exact (cnt_spec l m b k).imp id fun ⟨j, y, h1, h2, h3, h4⟩ => ⟨j, y, h1, h2, by omega, h4⟩
theorem cnt_le (l : List M) (m : M) (b : Nat) : ∀ k, (cntK l m b k).1 ≤ k
  | 0 => Nat.le_refl _
  | k + 1 => by
    have := cnt_le l m b k
    unfold cntK
    split
    · exact Nat.zero_le _
    · split
      · omega
      · split
        · exact Nat.succ_le_succ this
        · omega
/-- What Push leaves out lies behind the last marker. -/
theorem skip_spec (l : List M) (m : M) : (skipI l m = -1 ∧ (m.id < 0 ∨ (cntK l m (behind l l.length) l.length).1 < 3)) ∨ ∃ (j : Nat) (x : M), skipI l m = j ∧ 0 ≤ m.id ∧ 3 ≤ (cntK l m (behind l l.length) l.length).1 ∧ behind l l.length ≤ j ∧ l[j]? = some x ∧ alike m x = true := by
  unfold skipI
  by_cases h1 : m.id < 0
  · exact .inl ⟨by rw [if_pos h1], .inl h1⟩
  · rw [if_neg h1]
    by_cases h2 : (cntK l m (behind l l.length) l.length).1 < 3
    · exact .inl ⟨by rw [if_pos h2], .inr h2⟩
    · rw [if_neg h2]
      rcases cnt_spec l m (behind l l.length) l.length with ⟨_, h4⟩ | ⟨j, x, a1, a2, a3, a4, a5⟩
      · omega
      · exact .inr ⟨j, x, a1, by omega, by omega, a2, a4, a5⟩
theorem cut_at {α : Type} {l : List α} {j : Nat} {x : α} (h : l[j]? = some x) : ∃ A B, l = A ++ x :: B ∧ A.length = j := by
  obtain ⟨hj, e⟩ := List.getElem?_eq_some_iff.1 h
  refine ⟨l.take j, l.drop (j + 1), ?_, by rw [List.length_take]; omega⟩
  rw [← e, ← List.drop_eq_getElem_cons hj, List.take_append_drop]
/-- Push, whole. -/
theorem push_is (l : List M) (m : M) : (pushL l m = l ++ [m] ∧ (m.id < 0 ∨ (cntK l m (behind l l.length) l.length).1 < 3)) ∨ ∃ A x B, l = A ++ x :: B ∧ behind l l.length ≤ A.length ∧ alike m x = true ∧ 0 ≤ m.id ∧ 3 ≤ (cntK l m (behind l l.length) l.length).1 ∧ pushL l m = A ++ B ++ [m] := by
  rcases skip_spec l m with ⟨h, h0⟩ | ⟨j, x, h, h1, h2, h3, h4, h5⟩
  · exact .inl ⟨by unfold pushL; rw [h, keepK_none, List.take_of_length_le (Nat.le_refl _)], h0⟩
  · obtain ⟨A, B, e, hA⟩ := cut_at h4
    refine .inr ⟨A, x, B, e, by omega, h5, h1, h2, ?_⟩
    unfold pushL
    rw [h, ← hA]
    conv => lhs; rw [e]
    rw [keepK_at, if_neg (by simp)]
    simp
end Go.Proofs.Ytmgbjkekfejnfaa.Mk
