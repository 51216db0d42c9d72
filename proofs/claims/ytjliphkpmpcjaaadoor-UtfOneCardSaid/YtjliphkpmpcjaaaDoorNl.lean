/- Plain Lean: lines and their ends, over lists of bytes. Nothing of a program stands here. -/
import Derived.Test.YtjliphkpmpcjaaaDoorU8
namespace Go.Proofs.YtjliphkpmpcjaaaDoor.Nl
open Go.Lib

/-- One kind of line's end; the flag: did a return stand just ahead? -/
def nlS : Bool → List UInt8 → List UInt8
  | _, [] => []
  | b, c :: r => if b = true ∧ c = 10 then nlS false r else if c = 13 then 10 :: nlS true r else c :: nlS false r
def nl (l : List UInt8) : List UInt8 := nlS false l
/-- The lines of a text that has one kind of ends; cur: what the line has so far. -/
def split (cur : List UInt8) : List UInt8 → List (List UInt8)
  | [] => if cur = [] then [] else [cur]
  | c :: r => if c = 10 then cur :: split [] r else split (cur ++ [c]) r
def lines (l : List UInt8) : List (List UInt8) := split [] (nl l)

theorem nl_nil : nl [] = [] := rfl
theorem nl_other {c : UInt8} (r : List UInt8) (h : c ≠ 13) : nl (c :: r) = c :: nl r := by simp [nl, nlS, h]
theorem nlS_true (r : List UInt8) (h : r.head? ≠ some 10) : nlS true r = nl r := by
  cases r with
  | nil => rfl
  | cons c r =>
    have hc : c ≠ 10 := fun e => h (by simp [e])
    simp [nl, nlS, hc]
theorem nl_cr (r : List UInt8) (h : r.head? ≠ some 10) : nl (13 :: r) = 10 :: nl r := by
  rw [← nlS_true r h]; simp [nl, nlS]
theorem nl_crlf (r : List UInt8) : nl (13 :: 10 :: r) = 10 :: nl r := by simp [nl, nlS]

theorem nl_le : ∀ (b : Bool) (l : List UInt8), (nlS b l).length ≤ l.length
  | _, [] => by simp [nlS]
  | b, c :: r => by
    have h1 := nl_le false r
    have h2 := nl_le true r
    unfold nlS
    split
    · simp; omega
    · split <;> (simp; omega)

/-! ### one line at a time -/
def isEnd (c : UInt8) : Bool := c == 10 || c == 13
def lineOf (l : List UInt8) : List UInt8 := l.takeWhile fun c => !isEnd c
def restOf (l : List UInt8) : List UInt8 := l.dropWhile fun c => !isEnd c
def width (r : List UInt8) : Nat := if hasPrefix r [13, 10] = true then 2 else min 1 r.length
def next (l : List UInt8) : List UInt8 := (restOf l).drop (width (restOf l))

theorem line_rest (l : List UInt8) : lineOf l ++ restOf l = l := List.takeWhile_append_dropWhile
theorem line_plain (l : List UInt8) : ∀ c ∈ lineOf l, c ≠ 10 ∧ c ≠ 13 := by
  induction l with
  | nil => intro c hc; cases hc
  | cons d r ih =>
    intro c hc
    unfold lineOf at hc ih
    rw [List.takeWhile_cons] at hc
    split at hc
    · rename_i hd
      rcases List.mem_cons.1 hc with rfl | hc
      · simpa [isEnd] using hd
      · exact ih c hc
    · cases hc
theorem rest_head (l : List UInt8) : restOf l = [] ∨ ∃ c r, restOf l = c :: r ∧ (c = 10 ∨ c = 13) := by
  cases h : restOf l with
  | nil => exact .inl rfl
  | cons c r =>
    refine .inr ⟨c, r, rfl, ?_⟩
    have := List.head?_dropWhile_not (fun c => !isEnd c) l
    unfold restOf at h
    rw [h] at this
    have this : ¬c = 10 → c = 13 := by simpa [isEnd] using this
    by_cases hc : c = 10
    · exact .inl hc
    · exact .inr (this hc)
theorem nl_append : ∀ (a r : List UInt8), (∀ c ∈ a, c ≠ 10 ∧ c ≠ 13) → nl (a ++ r) = a ++ nl r
  | [], _, _ => rfl
  | c :: a, r, h => by
    rw [List.cons_append, nl_other _ (h c (by simp)).2, nl_append a r (fun x hx => h x (by simp [hx]))]
    rfl
theorem prefix_crlf (r : List UInt8) : hasPrefix r [13, 10] = true ↔ ∃ r', r = 13 :: 10 :: r' := by
  unfold hasPrefix
  match r with
  | [] => simp
  | [a] => simp
  | a :: b :: r =>
    simp only [List.isPrefixOf, Bool.and_eq_true, beq_iff_eq, and_true]
    constructor
    · rintro ⟨rfl, rfl⟩; exact ⟨r, rfl⟩
    · rintro ⟨r', h⟩
      simp at h
      exact ⟨h.1.symm, h.2.1.symm⟩
theorem nl_rest (l : List UInt8) (h : restOf l ≠ []) : nl (restOf l) = 10 :: nl (next l) := by
  rcases rest_head l with h0 | ⟨c, r, h1, h2⟩
  · exact absurd h0 h
  · unfold next
    rw [h1]
    by_cases hp : hasPrefix (c :: r) [13, 10] = true
    · obtain ⟨r', e⟩ := (prefix_crlf _).1 hp
      rw [width, if_pos hp, e, nl_crlf]
      rfl
    · rw [width, if_neg hp]
      have hm : min 1 (c :: r).length = 1 := by simp
      rw [hm]
      rcases h2 with rfl | rfl
      · rw [nl_other _ (by decide)]; rfl
      · rw [nl_cr]
        · rfl
        · intro e
          apply hp
          cases r with
          | nil => cases e
          | cons d r => simp at e; subst e; exact (prefix_crlf _).2 ⟨r, rfl⟩
theorem nl_cut (l : List UInt8) : nl l = lineOf l ++ (if restOf l = [] then [] else 10 :: nl (next l)) := by
  have h := nl_append (lineOf l) (restOf l) (line_plain l)
  rw [line_rest] at h
  rw [h]
  by_cases hr : restOf l = []
  · rw [if_pos hr, hr, nl_nil]
  · rw [if_neg hr, nl_rest l hr]
theorem split_line : ∀ (a cur r : List UInt8), (∀ c ∈ a, c ≠ 10) → split cur (a ++ 10 :: r) = (cur ++ a) :: split [] r
  | [], cur, r, _ => by simp [split]
  | c :: a, cur, r, h => by
    rw [List.cons_append, split, if_neg (h c (by simp)), split_line a _ r (fun x hx => h x (by simp [hx]))]
    simp
theorem split_last : ∀ (a cur : List UInt8), (∀ c ∈ a, c ≠ 10) → split cur a = if cur ++ a = [] then [] else [cur ++ a]
  | [], cur, _ => by simp [split]
  | c :: a, cur, h => by
    rw [split, if_neg (h c (by simp)), split_last a _ (fun x hx => h x (by simp [hx]))]
    simp
theorem lines_nil : lines [] = [] := rfl
theorem lines_cut (l : List UInt8) (h : l ≠ []) : lines l = lineOf l :: lines (next l) := by
  unfold lines
  rw [nl_cut l]
  by_cases hr : restOf l = []
  · have hn : next l = [] := by unfold next; rw [hr]; rfl
    have hl : lineOf l = l := by have := line_rest l; rwa [hr, List.append_nil] at this
    rw [if_pos hr, hn, List.append_nil, split_last _ _ (fun c hc => (line_plain l c hc).1), List.nil_append, hl, if_neg h]
    rfl
  · rw [if_neg hr, split_line _ _ _ (fun c hc => (line_plain l c hc).1)]
    rfl
theorem width_le (r : List UInt8) : width r ≤ r.length := by
  unfold width
  split
  · rename_i h
    obtain ⟨r', rfl⟩ := (prefix_crlf _).1 h
    simp
  · omega
theorem width_pos (r : List UInt8) (h : r ≠ []) : 1 ≤ width r := by
  unfold width
  split
  · omega
  · cases r with
    | nil => exact absurd rfl h
    | cons a r => simp
theorem restOf_drop (l : List UInt8) : restOf l = l.drop (lineOf l).length := by
  have h := line_rest l
  have h2 : (lineOf l ++ restOf l).drop (lineOf l).length = restOf l := List.drop_left
  rw [h] at h2
  exact h2.symm
/-- How far a line's bytes go, and what is behind it. -/
theorem next_drop (l : List UInt8) : next l = l.drop ((lineOf l).length + width (restOf l)) := by
  unfold next
  rw [← List.drop_drop, ← restOf_drop]
theorem lineOf_take (l : List UInt8) : lineOf l = l.take (lineOf l).length := by
  have h := line_rest l
  have h2 : (lineOf l ++ restOf l).take (lineOf l).length = lineOf l := List.take_left
  rw [h] at h2
  exact h2.symm
theorem lineOf_le (l : List UInt8) : (lineOf l).length ≤ l.length := by
  have := congrArg List.length (line_rest l)
  simp at this; omega
/-- The bytes up to j are no ends, and there the text ends, or an end begins: that is the line. -/
theorem lineOf_is (l : List UInt8) (j : Nat) (hj : j ≤ l.length) (h1 : ∀ i, i < j → U8.B l i ≠ 10 ∧ U8.B l i ≠ 13) (h2 : j = l.length ∨ U8.B l j = 10 ∨ U8.B l j = 13) : (lineOf l).length = j := by
  induction l generalizing j with
  | nil => simp at hj; subst hj; rfl
  | cons c r ih =>
    have hB : ∀ i, U8.B (c :: r) (i + 1) = U8.B r i := fun i => by simp [U8.B, List.getD]
    have hB0 : U8.B (c :: r) 0 = c.toNat := by simp [U8.B, List.getD]
    cases j with
    | zero =>
      have he : isEnd c = true := by
        rcases h2 with h2 | h2 | h2
        · simp at h2
        · rw [hB0] at h2
          have : c = 10 := UInt8.toNat_inj.1 h2
          simp [isEnd, this]
        · rw [hB0] at h2
          have : c = 13 := UInt8.toNat_inj.1 h2
          simp [isEnd, this]
      simp [lineOf, he]
    | succ j =>
      have h0 := h1 0 (by omega)
      rw [hB0] at h0
      have he : isEnd c = false := by
        have a1 : c ≠ 10 := fun e => h0.1 (by rw [e]; rfl)
        have a2 : c ≠ 13 := fun e => h0.2 (by rw [e]; rfl)
        simp [isEnd, a1, a2]
      have := ih j (by simp at hj; omega) (fun i hi => by rw [← hB]; exact h1 (i + 1) (by omega)) (by
        rw [← hB]
        rcases h2 with h2 | h2
        · left; simp at h2; omega
        · right; exact h2)
      unfold lineOf at this ⊢
      rw [List.takeWhile_cons, he]
      simpa using this
end Go.Proofs.YtjliphkpmpcjaaaDoor.Nl
