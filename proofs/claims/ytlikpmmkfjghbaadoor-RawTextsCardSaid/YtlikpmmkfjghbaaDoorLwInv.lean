/- Plain: what a loop that makes letters small has done so far. -/
import Derived.Test.YtlikpmmkfjghbaaDoorOwn
import Derived.Test.YtlikpmmkfjghbaaDoorClass
namespace Go.Proofs.YtlikpmmkfjghbaaDoor
open Go.RowKit Go.Lib
set_option maxRecDepth 100000
set_option linter.unusedVariables false

theorem drop_at (s : ByteArray) (k : Nat) (h : k < s.size) : s.data.toList.drop k = s[k]'h :: s.data.toList.drop (k + 1) := by
  rw [List.drop_eq_getElem_cons (by rw [size_list]; exact h)]
  rfl
def LwInv (l : List UInt8) (k : Nat) (acc : List UInt8) : Prop := acc ++ lowL (l.drop k) = lowL l ∧ acc.length = k
theorem LwInv.step {s : ByteArray} {k : Nat} {acc : List UInt8} (h : LwInv s.data.toList k acc) (hk : k < s.size) : LwInv s.data.toList (k + 1) (acc ++ [lowC (s[k]'hk)]) := by
  obtain ⟨h1, h2⟩ := h
  rw [drop_at s k hk] at h1
  exact ⟨by rw [← h1]; simp [lowL], by simp; omega⟩
theorem LwInv.done {s : ByteArray} {k : Nat} {acc : List UInt8} (h : LwInv s.data.toList k acc) (hk : ¬ k < s.size) : acc = lowL s.data.toList := by
  obtain ⟨h1, _⟩ := h
  rw [List.drop_of_length_le (by rw [size_list]; omega)] at h1
  simpa [lowL] using h1

end Go.Proofs.YtlikpmmkfjghbaaDoor
