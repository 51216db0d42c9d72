/- Plain Lean: escaping byte by byte, over byte arrays. Nothing of a program stands here. -/
import Derived.Test.YthfaogodiefefaaDoorEntMore
import Derived.Test.YthfaogodiefefaaDoorBase
namespace Go.Proofs.YthfaogodiefefaaDoor
open Go.Lib
set_option maxRecDepth 100000
set_option linter.unusedVariables false

/-- Behind k bytes. -/
def EscI (l : List UInt8) (k : Nat) (T R : ByteArray) : Prop := T.data.toList = Ent.esc (l.take k) ∧ R.data.toList = Ent.bareOf (l.take k)
theorem esc_cat_list (X Y : ByteArray) : (X ++ Y).data.toList = X.data.toList ++ Y.data.toList := by
  rw [ByteArray.data_append]; simp
theorem EscI.start (l : List UInt8) : EscI l 0 ⟨#[]⟩ ⟨#[]⟩ := by
  unfold EscI
  rw [List.take_zero]
  exact ⟨rfl, rfl⟩
theorem EscI.le {l : List UInt8} {k : Nat} {T R : ByteArray} (h : EscI l k T R) : T.size ≤ 5 * l.length ∧ R.size ≤ l.length := by
  have h1 := Ent.esc_le (l.take k)
  have h2 := Ent.bareOf_le (l.take k)
  rw [← h.1, List.length_take, size_list] at h1
  rw [← h.2, List.length_take, size_list] at h2
  omega
theorem EscI.amp {l : List UInt8} {k : Nat} {T R : ByteArray} (h : EscI l k T R) (hk : k < l.length) (hc : l[k] = 38) : EscI l (k + 1) (T ++ ⟨#[38, 97, 109, 112, 59]⟩) R := by
  unfold EscI at h ⊢
  rw [List.take_succ_eq_append_getElem hk, Ent.esc_append, Ent.bareOf_append, hc, esc_cat_list, h.1, h.2]
  exact ⟨rfl, by show _ = _ ++ []; simp⟩
theorem EscI.other {l : List UInt8} {k : Nat} {T R X : ByteArray} (h : EscI l k T R) (hk : k < l.length) (hc : l[k] ≠ 38) (hX : X.data.toList = [l[k]]) : EscI l (k + 1) (T ++ X) (R ++ X) := by
  unfold EscI at h ⊢
  rw [List.take_succ_eq_append_getElem hk, Ent.esc_append, Ent.bareOf_append, esc_cat_list, esc_cat_list, h.1, h.2, hX]
  refine ⟨?_, ?_⟩
  · congr 1
    show _ = List.flatMap _ [l[k]]
    simp [hc]
  · congr 1
    show _ = List.filter _ [l[k]]
    simp [hc]
theorem one_list (s : ByteArray) (k : Nat) (hk : k < s.data.toList.length) : (s.extract k (k + 1)).data.toList = [s.data.toList[k]] := by
  rw [extract_data, show k + 1 - k = 1 by omega, List.drop_eq_getElem_cons hk]
  rfl
end Go.Proofs.YthfaogodiefefaaDoor
