/- Plain Lean: what is cut off at the ends, and left out anywhere; what the library's TrimFunc says of bytes up to 20 (hexadecimal). Nothing of a program stands here. -/
import Derived.Lib.TrimUEq
import Derived.Shelf.GgClosure.StringsTrimFunc
namespace Go.Proofs.YtpheaepifjcmiaaDoor.Url
open Go.Lib
set_option maxRecDepth 100000
set_option linter.unusedVariables false

def lowB (c : UInt8) : Bool := decide (c.toNat ≤ 32)
def lowR (r : Nat) : Bool := decide (r ≤ 32)
def cutL (l : List UInt8) : List UInt8 := l.dropWhile lowB
def cutR (l : List UInt8) : List UInt8 := (l.reverse.dropWhile lowB).reverse

theorem decN_high (n b0 b1 b2 b3 : Nat) (h : 128 ≤ b0) : 128 ≤ (decodeN n b0 b1 b2 b3).1 := by
  unfold decodeN
  repeat' split
  all_goals (simp only; omega)
theorem dec_low (l : List UInt8) (h : (l.getD 0 0).toNat < 128) : decodeL l = ((l.getD 0 0).toNat, 1) := by
  rw [decodeL_N, decodeN_ascii _ _ _ _ _ h]
theorem dec_high (l : List UInt8) (h : 128 ≤ (l.getD 0 0).toNat) : 128 ≤ (decodeL l).1 := by
  rw [decodeL_N]; exact decN_high _ _ _ _ _ h
theorem cutL_nil : cutL [] = [] := rfl
theorem cutL_yes {c : UInt8} {l : List UInt8} (h : c.toNat ≤ 32) : cutL (c :: l) = cutL l := by
  unfold cutL; rw [List.dropWhile_cons, if_pos (by simpa [lowB] using h)]
theorem cutL_no {c : UInt8} {l : List UInt8} (h : ¬ c.toNat ≤ 32) : cutL (c :: l) = c :: l := by
  unfold cutL; rw [List.dropWhile_cons, if_neg (by simpa [lowB] using h)]
theorem cutR_nil : cutR [] = [] := rfl
theorem cutR_yes {c : UInt8} {l : List UInt8} (h : c.toNat ≤ 32) : cutR (l ++ [c]) = cutR l := by
  unfold cutR; rw [List.reverse_append, List.reverse_singleton, List.singleton_append, List.dropWhile_cons, if_pos (by simpa [lowB] using h)]
theorem cutR_no {c : UInt8} {l : List UInt8} (h : ¬ c.toNat ≤ 32) : cutR (l ++ [c]) = l ++ [c] := by
  unfold cutR; rw [List.reverse_append, List.reverse_singleton, List.singleton_append, List.dropWhile_cons, if_neg (by simpa [lowB] using h), List.reverse_cons, List.reverse_reverse]
theorem cutL_le : ∀ l : List UInt8, (cutL l).length ≤ l.length
  | [] => Nat.le_refl _
  | c :: l => by
    by_cases h : c.toNat ≤ 32
    · rw [cutL_yes h]; exact Nat.le_trans (cutL_le l) (by simp)
    · rw [cutL_no h]; exact Nat.le_refl _
theorem cutR_le (l : List UInt8) : (cutR l).length ≤ l.length := by
  unfold cutR
  rw [List.length_reverse]
  exact Nat.le_trans (cutL_le l.reverse) (by simp)

theorem idx_stop (s : ByteArray) (f pos : Nat) (hp : pos < s.size) (h : ¬ (Utf8.decode s pos).1 ≤ 32) : idxFuncFrom lowR false s (f + 1) pos = (pos : Int) := by
  rw [idxFuncFrom, if_pos hp, if_pos (by simp only [lowR]; exact decide_eq_false h)]
theorem idx_go (s : ByteArray) (f pos : Nat) (hp : pos < s.size) (h : (Utf8.decode s pos).1 ≤ 32) : idxFuncFrom lowR false s (f + 1) pos = idxFuncFrom lowR false s f (pos + (Utf8.decode s pos).2) := by
  rw [idxFuncFrom, if_pos hp, if_neg (by simp only [lowR]; rw [decide_eq_true h]; decide)]
theorem left_low (s : ByteArray) : ∀ (f pos : Nat), s.size ≤ pos + f →
    (if idxFuncFrom lowR false s f pos = -1 then [] else s.data.toList.drop (idxFuncFrom lowR false s f pos).toNat) = cutL (s.data.toList.drop pos)
  | 0, pos, h => by
    have hl : s.data.toList.drop pos = [] := List.drop_of_length_le (by rw [← size_eq]; omega)
    rw [hl, if_pos (show idxFuncFrom lowR false s 0 pos = -1 from rfl)]; rfl
  | f + 1, pos, h => by
    by_cases hp : pos < s.size
    · have hpl : pos < s.data.toList.length := by rw [← size_eq]; exact hp
      have hd : s.data.toList.drop pos = s.data.toList[pos] :: s.data.toList.drop (pos + 1) := List.drop_eq_getElem_cons hpl
      have h0 : (s.data.toList.drop pos).getD 0 0 = s.data.toList[pos] := by rw [hd]; rfl
      have hdec := decodeL_drop s pos
      by_cases hc : (s.data.toList[pos]).toNat ≤ 32
      · have e := dec_low (s.data.toList.drop pos) (by rw [h0]; omega)
        rw [h0, hdec] at e
        rw [idx_go s f pos hp (by rw [e]; exact hc), e]
        show (if idxFuncFrom lowR false s f (pos + 1) = -1 then [] else s.data.toList.drop (idxFuncFrom lowR false s f (pos + 1)).toNat) = _
        rw [left_low s f (pos + 1) (by omega), hd, cutL_yes hc]
      · have hn : ¬ (Utf8.decode s pos).1 ≤ 32 := by
          rw [← hdec]
          by_cases h8 : (s.data.toList[pos]).toNat < 128
          · rw [dec_low _ (by rw [h0]; exact h8), h0]; exact hc
          · have := dec_high (s.data.toList.drop pos) (by rw [h0]; omega)
            omega
        rw [idx_stop s f pos hp hn, if_neg (by omega), Int.toNat_natCast, hd, cutL_no hc]
    · have hl : s.data.toList.drop pos = [] := List.drop_of_length_le (by rw [← size_eq]; omega)
      rw [hl, idxFuncFrom_end _ _ _ _ _ hp, if_pos rfl]; rfl
theorem trimLeft_low (s : ByteArray) : (trimLeftF lowR s).data.toList = cutL s.data.toList := by
  have h := left_low s s.size 0 (by omega)
  rw [List.drop_zero] at h
  rw [← h]
  unfold trimLeftF idxFunc
  split
  · rfl
  · rw [extract_data, List.take_of_length_le (by rw [List.length_drop, ← size_eq]; exact Nat.le_refl _)]

theorem last_high (l : List UInt8) (i : Nat) (hi : 0 < i) (hil : i ≤ l.length) (h : 128 ≤ (l.getD (i - 1) 0).toNat) : 128 ≤ (decodeLastL (l.take i)).1 := by
  rcases last_cases l i hi hil with ⟨ha, hd⟩ | ⟨ha, hd⟩ | ⟨ha, st, hst, hd, hsum⟩
  · omega
  · rw [hd]; decide
  · rw [hd]
    by_cases h8 : (((l.take i).drop st).getD 0 0).toNat < 128
    · exfalso
      rw [dec_low _ h8] at hsum
      rw [getD_dropU, Nat.add_zero, getD_takeU l i st hst] at h8
      have : st = i - 1 := by simp only at hsum; omega
      rw [this] at h8
      omega
    · exact dec_high _ (by omega)
theorem last_low (l : List UInt8) (i : Nat) (hi : 0 < i) (hil : i ≤ l.length) (h : (l.getD (i - 1) 0).toNat < 128) : decodeLastL (l.take i) = ((l.getD (i - 1) 0).toNat, 1) := by
  rcases last_cases l i hi hil with ⟨ha, hd⟩ | ⟨ha, hd⟩ | ⟨ha, st, hst, hd, hsum⟩
  · exact hd
  · omega
  · omega
theorem last_stop (s : ByteArray) (f i : Nat) (hi : 0 < i) (h : ¬ (decodeLastL (s.data.toList.take i)).1 ≤ 32) : lastIdxFuncFrom lowR false s (f + 1) i = ((i - (decodeLastL (s.data.toList.take i)).2 : Nat) : Int) := by
  rw [lastIdxFuncFrom, if_pos hi, if_pos (by simp only [lowR]; exact decide_eq_false h)]
theorem last_go (s : ByteArray) (f i : Nat) (hi : 0 < i) (h : (decodeLastL (s.data.toList.take i)).1 ≤ 32) : lastIdxFuncFrom lowR false s (f + 1) i = lastIdxFuncFrom lowR false s f (i - (decodeLastL (s.data.toList.take i)).2) := by
  rw [lastIdxFuncFrom, if_pos hi, if_neg (by simp only [lowR]; rw [decide_eq_true h]; decide)]
theorem right_low (s : ByteArray) : ∀ (f i : Nat), i ≤ f → i ≤ s.data.toList.length → OpenAt s.data.toList i →
    cutR (s.data.toList.take i) = s.data.toList.take (if 0 ≤ lastIdxFuncFrom lowR false s f i then (lastIdxFuncFrom lowR false s f i).toNat + (decodeL (s.data.toList.drop (lastIdxFuncFrom lowR false s f i).toNat)).2 else 0)
  | 0, i, hf, _, _ => by
    obtain rfl : i = 0 := by omega
    simp [lastIdxFuncFrom, cutR_nil]
  | f + 1, i, hf, hil, ho => by
    by_cases hi : 0 < i
    · have hg : s.data.toList.getD (i - 1) 0 = s.data.toList[i - 1]'(by omega) := by simp [List.getD, List.getElem?_eq_getElem (show i - 1 < s.data.toList.length by omega)]
      have ht : s.data.toList.take i = s.data.toList.take (i - 1) ++ [s.data.toList[i - 1]'(by omega)] := by
        have := List.take_succ_eq_append_getElem (l := s.data.toList) (i := i - 1) (by omega)
        rwa [Nat.sub_add_cancel (by omega)] at this
      by_cases hc : (s.data.toList[i - 1]'(by omega)).toNat ≤ 32
      · have e := last_low s.data.toList i hi hil (by rw [hg]; omega)
        rw [hg] at e
        rw [last_go s f i hi (by rw [e]; exact hc), e, ht, cutR_yes hc]
        show _ = s.data.toList.take (if 0 ≤ lastIdxFuncFrom lowR false s f (i - 1) then (lastIdxFuncFrom lowR false s f (i - 1)).toNat + (decodeL (s.data.toList.drop (lastIdxFuncFrom lowR false s f (i - 1)).toNat)).2 else 0)
        refine right_low s f (i - 1) (by omega) (by omega) (.inr ?_)
        rw [hg]; omega
      · have hn : ¬ (decodeLastL (s.data.toList.take i)).1 ≤ 32 := by
          by_cases h8 : (s.data.toList[i - 1]'(by omega)).toNat < 128
          · rw [last_low s.data.toList i hi hil (by rw [hg]; exact h8), hg]; exact hc
          · have := last_high s.data.toList i hi hil (by rw [hg]; omega)
            omega
        have hlen : (s.data.toList.take i).length = i := by rw [List.length_take]; omega
        have hw := decodeLastL_width (s.data.toList.take i) (by omega)
        rw [hlen] at hw
        rw [last_stop s f i hi hn, if_pos (by omega), Int.toNat_natCast, fw_width _ i hi hil ho, Nat.sub_add_cancel hw.2, ht, cutR_no hc]
    · obtain rfl : i = 0 := by omega
      rw [lastIdxFuncFrom_zero]
      simp [cutR_nil]
theorem lastIdx_lt (s : ByteArray) : ∀ (f i : Nat), i ≤ s.size → lastIdxFuncFrom lowR false s f i = -1 ∨ lastIdxFuncFrom lowR false s f i < i
  | 0, _, _ => .inl rfl
  | f + 1, i, hi => by
    unfold lastIdxFuncFrom
    split
    · rename_i h0
      have hw := decodeLastL_width (s.data.toList.take i) (by rw [List.length_take, ← size_eq]; omega)
      rw [List.length_take, ← size_eq, Nat.min_eq_left hi] at hw
      split
      · exact .inr (by omega)
      · rcases lastIdx_lt s f (i - (decodeLastL (s.data.toList.take i)).2) (by omega) with h | h
        · exact .inl h
        · exact .inr (by omega)
    · exact .inl rfl
theorem trimRight_low (s : ByteArray) : (trimRightF lowR s).data.toList = cutR s.data.toList := by
  have h := right_low s s.size s.size (Nat.le_refl _) (by rw [← size_eq]; exact Nat.le_refl _) (.inl (size_eq s))
  rw [List.take_of_length_le (by rw [← size_eq]; exact Nat.le_refl _)] at h
  rw [h]
  unfold trimRightF rightEndF lastIdxFunc
  rw [extract_data, List.drop_zero, Nat.sub_zero]
  congr 1
  split
  · rename_i h0
    congr 2
    rcases lastIdxFuncFrom_range lowR false s s.size s.size with hm | hlt
    · omega
    · by_cases hz : s.size = 0
      · rw [hz, lastIdxFuncFrom_zero] at h0
        omega
      have hx : s.extract (lastIdxFuncFrom lowR false s s.size s.size).toNat s.size = ⟨(s.data.toList.drop (lastIdxFuncFrom lowR false s s.size s.size).toNat).toArray⟩ := by
        rw [extract_eq, List.take_of_length_le (by rw [List.length_drop, ← size_eq]; exact Nat.le_refl _)]
      rw [hx]
      unfold decodeGoB decodeL
      by_cases hxs : (⟨(s.data.toList.drop (lastIdxFuncFrom lowR false s s.size s.size).toNat).toArray⟩ : ByteArray).size = 0
      · exfalso
        rw [size_eq] at hxs
        simp only [List.length_drop] at hxs
        rw [← size_eq] at hxs
        have hlt2 := lastIdx_lt s s.size s.size (by omega)
        omega
      · rw [if_neg hxs]
  · rfl
/-- What the library's TrimFunc leaves. -/
theorem trim_low (s : ByteArray) : (trimF lowR s).data.toList = cutR (cutL s.data.toList) := by
  unfold trimF
  rw [trimRight_low, trimLeft_low]
end Go.Proofs.YtpheaepifjcmiaaDoor.Url
