/- Plain Lean: how many characters a text has. Nothing of a program stands here. -/
import Derived.Test.YtjliphkpmpcjaaaDoorDec
namespace Go.Proofs.YtjliphkpmpcjaaaDoor.U8
open Go.Lib

def isHead (c : UInt8) : Bool := decide (c.toNat < 128 ∨ 192 ≤ c.toNat)
def heads (l : List UInt8) : Nat := (l.filter isHead).length
theorem heads_append (a b : List UInt8) : heads (a ++ b) = heads a + heads b := by simp [heads]
theorem heads_le (l : List UInt8) : heads l ≤ l.length := List.length_filter_le _ _
theorem heads_one (c : UInt8) (r : List UInt8) (h : isHead c = true) (hr : ∀ x ∈ r, isHead x = false) : heads (c :: r) = 1 := by
  unfold heads
  rw [List.filter_cons, if_pos h]
  have : r.filter isHead = [] := by
    rw [List.filter_eq_nil_iff]
    intro x hx
    rw [hr x hx]; simp
  rw [this]; rfl
theorem whole_head (l : List UInt8) (hw : (front l).2 = true) : B l 0 < 128 ∨ 194 ≤ B l 0 := by
  unfold front frontN at hw
  by_cases d0 : B l 0 < 128
  · exact .inl d0
  by_cases d1 : B l 0 < 194 ∨ 244 < B l 0
  · rw [if_neg d0, if_pos d1] at hw; cases hw
  · right; omega
theorem heads_stepOut (l : List UInt8) (h : l ≠ []) : heads (stepOut l) = 1 := by
  unfold stepOut
  split
  · rename_i hc
    have hl := front_le l h
    cases l with
    | nil => exact absurd rfl h
    | cons c r =>
      obtain ⟨k, hk⟩ : ∃ k, (front (c :: r)).1 = k + 1 := ⟨(front (c :: r)).1 - 1, by omega⟩
      rw [hk, List.take_succ_cons]
      apply heads_one
      · have := whole_head _ hc.1
        have e : B (c :: r) 0 = c.toNat := by simp [B, List.getD]
        rw [e] at this
        unfold isHead
        rw [decide_eq_true_eq]
        omega
      · intro x hx
        obtain ⟨j, hj, rfl⟩ := List.mem_iff_getElem.1 hx
        have hj2 : j < k := by simp at hj; omega
        have ht := front_tail (c :: r) (j + 1) (by omega) (by omega)
        have hj3 : j < r.length := by simp at hj; omega
        have e : B (c :: r) (j + 1) = (r[j]).toNat := by
          rw [B_eq (c := r[j])]
          rw [List.getElem?_cons_succ, List.getElem?_eq_getElem hj3]
        rw [e] at ht
        rw [List.getElem_take]
        unfold isHead
        rw [decide_eq_false_iff_not]
        omega
  · decide
/-- Of n bytes at least n / 4 characters come, and at most n. -/
theorem heads_plain : ∀ l, l.length ≤ 4 * heads (plain l) ∧ heads (plain l) ≤ l.length := by
  apply steps
  · simp [plain_nil, heads]
  · intro l h ih
    have hl := front_le l h
    rw [plain_step l h, heads_append, heads_stepOut l h]
    simp at ih ⊢
    omega
end Go.Proofs.YtjliphkpmpcjaaaDoor.U8
