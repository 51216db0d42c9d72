/- Plain Lean: bytes that are left out, put into a text. Nothing of a program stands here. -/
import Derived.Test.YtoipadpgpnkdkaaDoorUrl
import Derived.IntWalk
import Derived.Deep.QuietTactic
import Derived.BigQuiet
namespace Go.Proofs.YtoipadpgpnkdkaaDoor
open Go.Lib
set_option maxRecDepth 100000
set_option linter.unusedVariables false

theorem cats (X Y : ByteArray) : (X ++ Y).data.toList = X.data.toList ++ Y.data.toList := by
  rw [ByteArray.data_append]; simp
theorem cats_size (X Y : ByteArray) : (X ++ Y).size = X.size + Y.size := by
  rw [size_eq, cats, List.length_append, ← size_eq, ← size_eq]
/-- One of the three, at whatever place. -/
theorem strip_put (T : ByteArray) (k c : Nat) (hc : c < 3) (h : k ≤ T.size) :
    Url.strip ((T.extract 0 k ++ (⟨#[9, 10, 13]⟩ : ByteArray).extract c (c + 1)) ++ T.extract k T.size).data.toList = Url.strip T.data.toList := by
  have hs : ∃ x : UInt8, ((⟨#[9, 10, 13]⟩ : ByteArray).extract c (c + 1)).data.toList = [x] ∧ Url.keepB x = false := by
    have : c = 0 ∨ c = 1 ∨ c = 2 := by omega
    rcases this with rfl | rfl | rfl
    · exact ⟨9, by decide +kernel, by decide +kernel⟩
    · exact ⟨10, by decide +kernel, by decide +kernel⟩
    · exact ⟨13, by decide +kernel, by decide +kernel⟩
  obtain ⟨x, hx, hk⟩ := hs
  rw [cats, cats, hx, extract_list, extract_drop, List.append_assoc, List.singleton_append, Url.strip_in _ _ _ hk, List.take_append_drop]
theorem put_size (T : ByteArray) (k c : Nat) (hc : c < 3) (h : k ≤ T.size) :
    ((T.extract 0 k ++ (⟨#[9, 10, 13]⟩ : ByteArray).extract c (c + 1)) ++ T.extract k T.size).size = T.size + 1 := by
  have h1 : ((⟨#[9, 10, 13]⟩ : ByteArray).extract c (c + 1)).size = 1 := by
    have : c = 0 ∨ c = 1 ∨ c = 2 := by omega
    rcases this with rfl | rfl | rfl <;> decide +kernel
  rw [cats_size, cats_size, h1, size_extract0 T k h, size_eq (T.extract k T.size), extract_drop, List.length_drop, size_list]
  omega
/-- Blanks alone. -/
def Low (F : ByteArray) : Prop := ∀ c ∈ F.data.toList, c.toNat ≤ 32
theorem Low.next {F : ByteArray} (h : Low F) (c : UInt8) (hc : c.toNat ≤ 32) : Low (F ++ ⟨#[c]⟩) := by
  intro d hd
  rw [cats] at hd
  rcases List.mem_append.1 hd with hd | hd
  · exact h d hd
  · rw [List.mem_singleton.1 hd]; exact hc
theorem scheme_around (F T S : ByteArray) (hF : Low F) (hT : Url.strip T.data.toList = Url.strip S.data.toList) : Url.scheme ((F ++ T) ++ F).data.toList = Url.scheme S.data.toList := by
  unfold Url.scheme
  rw [cats, cats, Url.strip_around _ _ _ hF hF, hT]
end Go.Proofs.YtoipadpgpnkdkaaDoor
