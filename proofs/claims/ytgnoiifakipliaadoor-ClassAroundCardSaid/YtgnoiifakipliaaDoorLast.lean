/- Plain Lean: the library's decoder from the end, of a text. -/
import Derived.Test.YtgnoiifakipliaaDoorClass
import Derived.Lib.SpaceUEq
import Derived.Shelf.Unicode.DecodeSlow
namespace Go.Proofs.YtgnoiifakipliaaDoor
open Go.Lib U8
set_option maxRecDepth 100000
set_option linter.unusedVariables false

theorem decodeL_dec (l : List UInt8) : decodeL l = dec l := by
  unfold decodeL
  rw [decode_dec, List.drop_zero]
theorem last4 (t : List UInt8) (c0 c1 c2 c3 : UInt8) (h3 : 128 ≤ c3.toNat) (h2 : runeStartB c2 = false) (h1 : runeStartB c1 = false) (h0 : runeStartB c0 = true) (hd : (decodeL [c0, c1, c2, c3]).2 = 4) : decodeLastL (t ++ [c0, c1, c2, c3]) = decodeL [c0, c1, c2, c3] := by
  have g1 := getD_app_end t [c0, c1, c2, c3] 1 (by omega) (by simp)
  have g2 := getD_app_end t [c0, c1, c2, c3] 2 (by omega) (by simp)
  have g3 := getD_app_end t [c0, c1, c2, c3] 3 (by omega) (by simp)
  have g4 := getD_app_end t [c0, c1, c2, c3] 4 (by omega) (by simp)
  have hl : (t ++ [c0, c1, c2, c3]).length = t.length + 4 := by simp
  have hs : lastStart (t ++ [c0, c1, c2, c3]) = (t ++ [c0, c1, c2, c3]).length - 4 := by
    unfold lastStart
    simp only [g2, g3, g4]
    rw [if_neg (by omega)]
    simp only [List.length_cons, List.length_nil, List.getD_cons_succ, List.getD_cons_zero, Nat.reduceAdd, Nat.reduceSub, h2, h1, h0, Bool.false_eq_true, if_false, if_true]
    rw [if_neg (by omega), if_neg (by omega)]
  have hdrop := drop_app_end t [c0, c1, c2, c3]
  unfold decodeLastL
  rw [if_neg (by simp), g1, if_neg (by simp; omega), hs]
  simp only [List.length_cons, List.length_nil] at hdrop
  simp only [hdrop, hd]
  rw [if_pos (by omega)]
theorem start_yes {n : Nat} (h : 192 ≤ n ∧ n < 256) : runeStartB (UInt8.ofNat n) = true := by
  unfold runeStartB
  have : (UInt8.ofNat n).toNat = n := ofNat_small n h.2
  rw [this, bne_iff_ne]; omega
theorem start_no {n : Nat} (h : 128 ≤ n ∧ n < 192) : runeStartB (UInt8.ofNat n) = false := by
  unfold runeStartB
  have : (UInt8.ofNat n).toNat = n := ofNat_small n (by omega)
  rw [this]
  have : n / 64 = 2 := by omega
  rw [this]; rfl
/-- A whole character at the end is what is decoded from there. -/
theorem last_enc (m : List UInt8) (c : Nat) (h : OkC c) : (decodeLastL (m ++ encN c)).1 = c := by
  have hd : ∀ e, encN c = e → decodeL e = (c, e.length) := by
    rintro e rfl
    have := (dec_enc h []).1
    rw [List.append_nil] at this
    rw [decodeL_dec, this]
  unfold OkC at h
  by_cases h1 : c < 128
  · have e : encN c = [UInt8.ofNat c] := by unfold encN; rw [if_pos h1]
    have b0 : (UInt8.ofNat c).toNat = c := ofNat_small c (by omega)
    rw [e]
    have g1 := getD_app_end m [UInt8.ofNat c] 1 (by omega) (by simp)
    have g2 : ([UInt8.ofNat c] : List UInt8).getD ([UInt8.ofNat c].length - 1) 0 = UInt8.ofNat c := rfl
    unfold decodeLastL
    rw [if_neg (by simp), g1, g2, b0, if_pos h1]
  by_cases h2 : c < 2048
  · have e : encN c = [UInt8.ofNat (192 + c / 64), UInt8.ofNat (128 + c % 64)] := by unfold encN; rw [if_neg h1, if_pos h2]
    have b1 : (UInt8.ofNat (128 + c % 64)).toNat = 128 + c % 64 := ofNat_small _ (by omega)
    have hd := hd _ e
    rw [e, last2 m _ _ (by omega) (start_yes (by omega)) (by rw [hd]; rfl), hd]
  by_cases h3 : c < 65536
  · have e : encN c = [UInt8.ofNat (224 + c / 4096), UInt8.ofNat (128 + c / 64 % 64), UInt8.ofNat (128 + c % 64)] := by unfold encN; rw [if_neg h1, if_neg h2, if_pos h3]
    have b1 : (UInt8.ofNat (128 + c % 64)).toNat = 128 + c % 64 := ofNat_small _ (by omega)
    have hd := hd _ e
    rw [e, last3 m _ _ _ (by omega) (start_no (by omega)) (start_yes (by omega)) (by rw [hd]; rfl), hd]
  · have e : encN c = [UInt8.ofNat (240 + c / 262144), UInt8.ofNat (128 + c / 4096 % 64), UInt8.ofNat (128 + c / 64 % 64), UInt8.ofNat (128 + c % 64)] := by unfold encN; rw [if_neg h1, if_neg h2, if_neg h3]
    have b1 : (UInt8.ofNat (128 + c % 64)).toNat = 128 + c % 64 := ofNat_small _ (by omega)
    have hd := hd _ e
    rw [e, last4 m _ _ _ _ (by omega) (start_no (by omega)) (start_no (by omega)) (start_yes (by omega)) (by rw [hd]; rfl), hd]
theorem lastL_right (l : List UInt8) (h : right l = true) (hne : l ≠ []) : (decodeLastL l).1 = lastC l := by
  obtain ⟨m, c, hc, _, e, hl⟩ := right_last l h hne
  rw [hl, e, last_enc m c hc.2]
theorem decodeGo_first (s : ByteArray) (h : 0 < s.size) : (decodeGo s).1 = firstC s.data.toList := by
  have hne : s.data.toList ≠ [] := by
    intro e
    have := size_list s
    rw [e] at this
    simp at this
    omega
  unfold decodeGo
  rw [if_neg (by omega), decode_dec, List.drop_zero, firstC_dec _ hne]
end Go.Proofs.YtgnoiifakipliaaDoor
