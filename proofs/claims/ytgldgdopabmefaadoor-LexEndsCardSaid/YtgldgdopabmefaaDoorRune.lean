/- Plain Lean: a character's own bytes are a text. Nothing of a program stands here. -/
import Derived.Test.YtgldgdopabmefaaDoorClsDig
import Derived.Laws.Cover4
namespace Go.Proofs.YtgldgdopabmefaaDoor
open Go.Lib

def encL (r : Int) : List UInt8 := (Utf8.encode r).data.toList
theorem runes_one (r : Int) : runesBytes [r] = Utf8.encode r := by
  unfold runesBytes
  simp only [List.foldl_cons, List.foldl_nil]
  apply ByteArray.ext
  rw [ByteArray.data_append]
  simp [ByteArray.empty, ByteArray.emptyWithCapacity]
  rfl

/-- The number that is written: U+FFFD's for what is none. -/
def codeOf (r : Int) : Nat := if Utf8.valid r then r.toNat else 65533
theorem codeOf_ok (r : Int) : codeOf r < 55296 ∨ (57344 ≤ codeOf r ∧ codeOf r ≤ 1114111) := by
  unfold codeOf
  split
  · rename_i h
    simp [Utf8.valid] at h
    omega
  · omega
theorem encL_eq (r : Int) : encL r = if codeOf r < 128 then [UInt8.ofNat (codeOf r)]
    else if codeOf r < 2048 then [UInt8.ofNat (192 + codeOf r / 64), UInt8.ofNat (128 + codeOf r % 64)]
    else if codeOf r < 65536 then [UInt8.ofNat (224 + codeOf r / 4096), UInt8.ofNat (128 + codeOf r / 64 % 64), UInt8.ofNat (128 + codeOf r % 64)]
    else [UInt8.ofNat (240 + codeOf r / 262144), UInt8.ofNat (128 + codeOf r / 4096 % 64), UInt8.ofNat (128 + codeOf r / 64 % 64), UInt8.ofNat (128 + codeOf r % 64)] := by
  unfold encL Utf8.encode codeOf Utf8.runeError
  simp only
  repeat' split
  all_goals rfl
theorem ofNat_small (n : Nat) (h : n < 256) : (UInt8.ofNat n).toNat = n := by rw [UInt8.toNat_ofNat']; omega

/-- All of it is one whole character. -/
theorem right_char (l : List UInt8) (h : l ≠ []) (hf : U8.front l = (l.length, true)) (h0 : U8.B l 0 ≠ 0) : U8.right l = true := by
  rw [U8.right_step l h, hf]
  simp [h0, U8.right_nil]
theorem encL_right (r : Int) (h0 : codeOf r ≠ 0) : U8.right (encL r) = true := by
  have hok := codeOf_ok r
  rw [encL_eq]
  generalize codeOf r = c at *
  split
  · rename_i h
    apply right_char _ (by simp)
    · unfold U8.front U8.frontN
      have e0 : U8.B [UInt8.ofNat c] 0 = c := ofNat_small c (by omega)
      rw [e0, if_pos h]; rfl
    · show (UInt8.ofNat c).toNat ≠ 0
      rw [ofNat_small c (by omega)]; exact h0
  split
  · rename_i h1 h2
    have e0 : U8.B [UInt8.ofNat (192 + c / 64), UInt8.ofNat (128 + c % 64)] 0 = 192 + c / 64 := ofNat_small _ (by omega)
    have e1 : U8.B [UInt8.ofNat (192 + c / 64), UInt8.ofNat (128 + c % 64)] 1 = 128 + c % 64 := ofNat_small _ (by omega)
    apply right_char _ (by simp)
    · unfold U8.front U8.frontN
      rw [e0, e1, if_neg (by omega), if_neg (by omega), if_neg (fun h => h ⟨by simp, (U8.sec_iff _ _).2 (by omega)⟩), if_pos (by omega)]; rfl
    · rw [e0]; omega
  split
  · rename_i h1 h2 h3
    have e0 : U8.B [UInt8.ofNat (224 + c / 4096), UInt8.ofNat (128 + c / 64 % 64), UInt8.ofNat (128 + c % 64)] 0 = 224 + c / 4096 := ofNat_small _ (by omega)
    have e1 : U8.B [UInt8.ofNat (224 + c / 4096), UInt8.ofNat (128 + c / 64 % 64), UInt8.ofNat (128 + c % 64)] 1 = 128 + c / 64 % 64 := ofNat_small _ (by omega)
    have e2 : U8.B [UInt8.ofNat (224 + c / 4096), UInt8.ofNat (128 + c / 64 % 64), UInt8.ofNat (128 + c % 64)] 2 = 128 + c % 64 := ofNat_small _ (by omega)
    apply right_char _ (by simp)
    · unfold U8.front U8.frontN
      rw [e0, e1, e2, if_neg (by omega), if_neg (by omega), if_neg (fun h => h ⟨by simp, (U8.sec_iff _ _).2 (by omega)⟩), if_neg (by omega), if_neg (fun h => h ⟨by simp, U8.cont_iff.2 (by omega)⟩), if_pos (by omega)]; rfl
    · rw [e0]; omega
  · rename_i h1 h2 h3
    have e0 : U8.B [UInt8.ofNat (240 + c / 262144), UInt8.ofNat (128 + c / 4096 % 64), UInt8.ofNat (128 + c / 64 % 64), UInt8.ofNat (128 + c % 64)] 0 = 240 + c / 262144 := ofNat_small _ (by omega)
    have e1 : U8.B [UInt8.ofNat (240 + c / 262144), UInt8.ofNat (128 + c / 4096 % 64), UInt8.ofNat (128 + c / 64 % 64), UInt8.ofNat (128 + c % 64)] 1 = 128 + c / 4096 % 64 := ofNat_small _ (by omega)
    have e2 : U8.B [UInt8.ofNat (240 + c / 262144), UInt8.ofNat (128 + c / 4096 % 64), UInt8.ofNat (128 + c / 64 % 64), UInt8.ofNat (128 + c % 64)] 2 = 128 + c / 64 % 64 := ofNat_small _ (by omega)
    have e3 : U8.B [UInt8.ofNat (240 + c / 262144), UInt8.ofNat (128 + c / 4096 % 64), UInt8.ofNat (128 + c / 64 % 64), UInt8.ofNat (128 + c % 64)] 3 = 128 + c % 64 := ofNat_small _ (by omega)
    apply right_char _ (by simp)
    · unfold U8.front U8.frontN
      rw [e0, e1, e2, e3, if_neg (by omega), if_neg (by omega), if_neg (fun h => h ⟨by simp, (U8.sec_iff _ _).2 (by omega)⟩), if_neg (by omega), if_neg (fun h => h ⟨by simp, U8.cont_iff.2 (by omega)⟩), if_neg (by omega), if_neg (fun h => h ⟨by simp, U8.cont_iff.2 (by omega)⟩)]; rfl
    · rw [e0]; omega
theorem encL_text (r : Int) (h0 : codeOf r ≠ 0) (hf : codeOf r ≠ 65279) : U8.text (encL r) = encL r := by
  have hok := codeOf_ok r
  have ht : trimPrefix (encL r) [239, 187, 191] = encL r := by
    apply trim_no
    rw [encL_eq]
    generalize codeOf r = c at *
    split
    · simp
    split
    · simp
    split
    · rename_i h1 h2 h3
      rintro ⟨_, b0, b1, b2⟩
      have e0 : U8.B [UInt8.ofNat (224 + c / 4096), UInt8.ofNat (128 + c / 64 % 64), UInt8.ofNat (128 + c % 64)] 0 = 224 + c / 4096 := ofNat_small _ (by omega)
      have e1 : U8.B [UInt8.ofNat (224 + c / 4096), UInt8.ofNat (128 + c / 64 % 64), UInt8.ofNat (128 + c % 64)] 1 = 128 + c / 64 % 64 := ofNat_small _ (by omega)
      have e2 : U8.B [UInt8.ofNat (224 + c / 4096), UInt8.ofNat (128 + c / 64 % 64), UInt8.ofNat (128 + c % 64)] 2 = 128 + c % 64 := ofNat_small _ (by omega)
      omega
    · rename_i h1 h2 h3
      rintro ⟨_, b0, _, _⟩
      have e0 : U8.B [UInt8.ofNat (240 + c / 262144), UInt8.ofNat (128 + c / 4096 % 64), UInt8.ofNat (128 + c / 64 % 64), UInt8.ofNat (128 + c % 64)] 0 = 240 + c / 262144 := ofNat_small _ (by omega)
      omega
  unfold U8.text
  rw [ht]
  exact U8.plain_of_right _ (encL_right r h0)
theorem codeOf_zero {r : Int} (h : r ≠ 0) : codeOf r ≠ 0 := by
  unfold codeOf
  split
  · rename_i hv
    simp [Utf8.valid] at hv
    omega
  · omega
theorem codeOf_bom {r : Int} (h : r ≠ 65279) : codeOf r ≠ 65279 := by
  unfold codeOf
  split
  · rename_i hv
    simp [Utf8.valid] at hv
    omega
  · omega
end Go.Proofs.YtgldgdopabmefaaDoor
