/- Plain Lean: how the first bytes' character is decoded (by ranges of its number), and how many broken bytes go together. Nothing of a program stands here. -/
import Derived.Test.YtmgbjkekfejnfaaU8
namespace Go.Proofs.Ytmgbjkekfejnfaa.U8
open Go.Lib

theorem take_one (l : List UInt8) (h : 1 ≤ l.length) : l.take 1 = [(B l 0).toUInt8] := by
  match l, h with
  | a :: r, _ => simp [B]
theorem take_two (l : List UInt8) (h : 2 ≤ l.length) : l.take 2 = [(B l 0).toUInt8, (B l 1).toUInt8] := by
  match l, h with
  | a :: b :: r, _ => simp [B]
theorem take_three (l : List UInt8) (h : 3 ≤ l.length) : l.take 3 = [(B l 0).toUInt8, (B l 1).toUInt8, (B l 2).toUInt8] := by
  match l, h with
  | a :: b :: c :: r, _ => simp [B]
theorem take_four (l : List UInt8) (h : 4 ≤ l.length) : l.take 4 = [(B l 0).toUInt8, (B l 1).toUInt8, (B l 2).toUInt8, (B l 3).toUInt8] := by
  match l, h with
  | a :: b :: c :: d :: r, _ => simp [B]

/-- What decoding gives, of the first bytes of a list. -/
def dec (l : List UInt8) : Nat × Nat := decodeN l.length (B l 0) (B l 1) (B l 2) (B l 3)

theorem sec_iff (a b : Nat) : sec a b = true ↔ 128 ≤ b ∧ b ≤ 191 ∧ (a = 224 → 160 ≤ b) ∧ (a = 237 → b ≤ 159) ∧ (a = 240 → 144 ≤ b) ∧ (a = 244 → b ≤ 143) := by
  unfold sec
  repeat' split
  all_goals (simp only [decide_eq_true_eq]; omega)

/-- A whole character is decoded to its number, whose bytes are these. -/
theorem dec_whole (l : List UInt8) (h : l ≠ []) (hw : (front l).2 = true) :
    ∃ r : Nat, dec l = (r, (front l).1) ∧ encodeRune r = l.take (front l).1 ∧ (r = 0 ↔ B l 0 = 0) ∧ r ≤ 1114111 := by
  have hl := front_le l h
  have p0 := B_lt l 0; have p1 := B_lt l 1; have p2 := B_lt l 2; have p3 := B_lt l 3
  have t1 := take_one l; have t2 := take_two l; have t3 := take_three l; have t4 := take_four l
  unfold dec
  unfold front at hw hl ⊢
  generalize B l 0 = b0 at *
  generalize B l 1 = b1 at *
  generalize B l 2 = b2 at *
  generalize B l 3 = b3 at *
  by_cases d0 : b0 < 128
  · have ef : frontN l.length b0 b1 b2 b3 = (1, true) := by unfold frontN; rw [if_pos d0]
    rw [ef] at hl ⊢
    refine ⟨b0, by simp [decodeN, d0], ?_, Iff.rfl, by omega⟩
    rw [t1 hl.2.1]
    unfold encodeRune
    rw [encodeRuneZ_one (by omega) (by omega)]
    rfl
  by_cases d1 : b0 < 194 ∨ 244 < b0
  · have ef : frontN l.length b0 b1 b2 b3 = (1, false) := by unfold frontN; rw [if_neg d0, if_pos d1]
    rw [ef] at hw; cases hw
  by_cases d2 : 1 < l.length ∧ sec b0 b1 = true
  · have s1 := (sec_iff b0 b1).1 d2.2
    by_cases d3 : b0 < 224
    · have ef : frontN l.length b0 b1 b2 b3 = (2, true) := by unfold frontN; rw [if_neg d0, if_neg d1, if_neg (fun h => h d2), if_pos d3]
      rw [ef] at hl ⊢
      refine ⟨b0 % 32 * 64 + b1 % 64, ?_, ?_, by omega, by omega⟩
      · unfold decodeN
        rw [if_neg d0, if_pos (by omega), if_pos (by omega)]
      · rw [t2 hl.2.1]
        unfold encodeRune
        rw [encodeRuneZ_two (by omega) (by omega)]
        simp only [List.map_cons, List.map_nil]
        have g0 : (192 + ((b0 % 32 * 64 + b1 % 64 : Nat) : Int) / 64).toNat = b0 := by omega
        have g1 : (128 + ((b0 % 32 * 64 + b1 % 64 : Nat) : Int) % 64).toNat = b1 := by omega
        rw [g0, g1]
    by_cases d4 : 2 < l.length ∧ cont b2 = true
    · have s2 := cont_iff.1 d4.2
      by_cases d5 : b0 < 240
      · have ef : frontN l.length b0 b1 b2 b3 = (3, true) := by unfold frontN; rw [if_neg d0, if_neg d1, if_neg (fun h => h d2), if_neg d3, if_neg (fun h => h d4), if_pos d5]
        rw [ef] at hl ⊢
        refine ⟨b0 % 16 * 4096 + b1 % 64 * 64 + b2 % 64, ?_, ?_, by omega, by omega⟩
        · unfold decodeN
          rw [if_neg d0, if_neg (by omega), if_pos (by omega), if_pos (by omega)]
        · rw [t3 hl.2.1]
          unfold encodeRune
          rw [encodeRuneZ_three (by omega)]
          simp only [List.map_cons, List.map_nil]
          have g0 : (224 + ((b0 % 16 * 4096 + b1 % 64 * 64 + b2 % 64 : Nat) : Int) / 4096).toNat = b0 := by omega
          have g1 : (128 + ((b0 % 16 * 4096 + b1 % 64 * 64 + b2 % 64 : Nat) : Int) / 64 % 64).toNat = b1 := by omega
          have g2 : (128 + ((b0 % 16 * 4096 + b1 % 64 * 64 + b2 % 64 : Nat) : Int) % 64).toNat = b2 := by omega
          rw [g0, g1, g2]
      by_cases d6 : 3 < l.length ∧ cont b3 = true
      · have s3 := cont_iff.1 d6.2
        have ef : frontN l.length b0 b1 b2 b3 = (4, true) := by unfold frontN; rw [if_neg d0, if_neg d1, if_neg (fun h => h d2), if_neg d3, if_neg (fun h => h d4), if_neg d5, if_neg (fun h => h d6)]
        rw [ef] at hl ⊢
        refine ⟨b0 % 8 * 262144 + b1 % 64 * 4096 + b2 % 64 * 64 + b3 % 64, ?_, ?_, by omega, by omega⟩
        · unfold decodeN
          rw [if_neg d0, if_neg (by omega), if_neg (by omega), if_pos (by omega), if_pos (by omega)]
        · rw [t4 hl.2.1]
          unfold encodeRune
          rw [encodeRuneZ_four (by omega) (by omega)]
          simp only [List.map_cons, List.map_nil]
          have g0 : (240 + ((b0 % 8 * 262144 + b1 % 64 * 4096 + b2 % 64 * 64 + b3 % 64 : Nat) : Int) / 262144).toNat = b0 := by omega
          have g1 : (128 + ((b0 % 8 * 262144 + b1 % 64 * 4096 + b2 % 64 * 64 + b3 % 64 : Nat) : Int) / 4096 % 64).toNat = b1 := by omega
          have g2 : (128 + ((b0 % 8 * 262144 + b1 % 64 * 4096 + b2 % 64 * 64 + b3 % 64 : Nat) : Int) / 64 % 64).toNat = b2 := by omega
          have g3 : (128 + ((b0 % 8 * 262144 + b1 % 64 * 4096 + b2 % 64 * 64 + b3 % 64 : Nat) : Int) % 64).toNat = b3 := by omega
          rw [g0, g1, g2, g3]
      · have ef : frontN l.length b0 b1 b2 b3 = (3, false) := by unfold frontN; rw [if_neg d0, if_neg d1, if_neg (fun h => h d2), if_neg d3, if_neg (fun h => h d4), if_neg d5, if_pos d6]
        rw [ef] at hw; cases hw
    · have ef : frontN l.length b0 b1 b2 b3 = (2, false) := by unfold frontN; rw [if_neg d0, if_neg d1, if_neg (fun h => h d2), if_neg d3, if_pos d4]
      rw [ef] at hw; cases hw
  · have ef : frontN l.length b0 b1 b2 b3 = (1, false) := by unfold frontN; rw [if_neg d0, if_neg d1, if_pos d2]
    rw [ef] at hw; cases hw

/-- What is not whole is decoded to U+FFFD, one byte. -/
theorem decN_broken (n b0 b1 b2 b3 : Nat) (p0 : b0 < 256) (hw : (frontN n b0 b1 b2 b3).2 = false) : decodeN n b0 b1 b2 b3 = (65533, 1) := by
  have s1 := sec_iff b0 b1; have s2 := @cont_iff b2; have s3 := @cont_iff b3
  by_cases d0 : b0 < 128
  · simp [frontN, d0] at hw
  by_cases d1 : b0 < 194 ∨ 244 < b0
  · unfold decodeN
    rw [if_neg d0]
    by_cases c1 : b0 / 32 = 6 ∧ 1 < n ∧ b1 / 64 = 2
    · rw [if_pos c1, if_neg (by omega)]
    rw [if_neg c1, if_neg (by omega)]
    by_cases c2 : b0 / 8 = 30 ∧ (1 < n ∧ b1 / 64 = 2) ∧ (2 < n ∧ b2 / 64 = 2) ∧ 3 < n ∧ b3 / 64 = 2
    · rw [if_pos c2, if_neg (by omega)]
    rw [if_neg c2]
  by_cases d2 : 1 < n ∧ sec b0 b1 = true
  · by_cases d3 : b0 < 224
    · simp [frontN, d0, d1, d2, d3] at hw
    by_cases d4 : 2 < n ∧ cont b2 = true
    · by_cases d5 : b0 < 240
      · simp [frontN, d0, d1, d2, d3, d4, d5] at hw
      by_cases d6 : 3 < n ∧ cont b3 = true
      · simp [frontN, d0, d1, d2, d3, d4, d5, d6] at hw
      · rw [s3] at d6
        unfold decodeN
        rw [if_neg d0, if_neg (by omega), if_neg (by omega), if_neg (by omega)]
    · rw [s2] at d4
      unfold decodeN
      rw [if_neg d0, if_neg (by omega), if_neg (by omega), if_neg (by omega)]
  · rw [s1] at d2
    unfold decodeN
    rw [if_neg d0]
    by_cases c1 : b0 / 32 = 6 ∧ 1 < n ∧ b1 / 64 = 2
    · exfalso; omega
    rw [if_neg c1]
    by_cases c2 : b0 / 16 = 14 ∧ (1 < n ∧ b1 / 64 = 2) ∧ 2 < n ∧ b2 / 64 = 2
    · rw [if_pos c2, if_neg (by omega)]
    rw [if_neg c2]
    by_cases c3 : b0 / 8 = 30 ∧ (1 < n ∧ b1 / 64 = 2) ∧ (2 < n ∧ b2 / 64 = 2) ∧ 3 < n ∧ b3 / 64 = 2
    · rw [if_pos c3, if_neg (by omega)]
    rw [if_neg c3]
theorem dec_broken (l : List UInt8) (hw : (front l).2 = false) : dec l = (65533, 1) := decN_broken _ _ _ _ _ (B_lt _ _) hw

/-- The number U+FFFD that stands there whole: its three bytes. -/
theorem dec_fffd (l : List UInt8) (h : l ≠ []) (hw : (front l).2 = true) (hr : (dec l).1 = 65533) : (front l).1 = 3 ∧ l.take 3 = bad := by
  obtain ⟨r, h1, h2, _, _⟩ := dec_whole l h hw
  rw [h1] at hr
  simp only at hr
  subst hr
  have h3 : encodeRune ((65533 : Nat) : Int) = bad := by decide
  rw [h3] at h2
  have hl := front_le l h
  have h4 : (l.take (front l).1).length = 3 := by rw [← h2]; rfl
  simp at h4
  have h5 : (front l).1 = 3 := by omega
  rw [h5] at h2
  exact ⟨h5, h2.symm⟩

/-! ### is it full? how many broken bytes go together -/
def fullN (n b0 b1 b2 : Nat) : Bool :=
  decide (firstT b0 % 8 ≤ n) || (decide (1 < n) && (decide (b1 < accLo (firstT b0 / 16)) || decide (accHi (firstT b0 / 16) < b1))) || (decide (2 < n) && (decide (b2 < 128) || decide (191 < b2)))
def pieceN (n b0 b1 b2 : Nat) : Nat := if n ≤ 1 ∨ fullN 2 b0 b1 b2 = true then 1 else if n ≤ 2 ∨ fullN 3 b0 b1 b2 = true then 2 else 3
theorem pieceN_le (n b0 b1 b2 : Nat) (hn : 1 ≤ n) : 1 ≤ pieceN n b0 b1 b2 ∧ pieceN n b0 b1 b2 ≤ 3 ∧ pieceN n b0 b1 b2 ≤ n := by
  unfold pieceN
  repeat' split
  all_goals omega

set_option maxHeartbeats 2000000 in
theorem pieceN_front (n b0 b1 b2 b3 : Nat) (_hn : 1 ≤ n) (_p0 : b0 < 256) (hw : (frontN n b0 b1 b2 b3).2 = false) : pieceN n b0 b1 b2 = (frontN n b0 b1 b2 b3).1 := by
  have s1 := sec_iff b0 b1; have s2 := @cont_iff b2
  have full : ∀ m, fullN m b0 b1 b2 = true ↔ (firstT b0 % 8 ≤ m ∨ (1 < m ∧ (b1 < accLo (firstT b0 / 16) ∨ accHi (firstT b0 / 16) < b1)) ∨ (2 < m ∧ (b2 < 128 ∨ 191 < b2))) := by
    intro m; simp [fullN, or_assoc]
  have ef : ∀ k q, frontN n b0 b1 b2 b3 = (k, q) → pieceN n b0 b1 b2 = k → pieceN n b0 b1 b2 = (frontN n b0 b1 b2 b3).1 := fun k q h1 h2 => by rw [h1, h2]
  by_cases d0 : b0 < 128
  · simp [frontN, d0] at hw
  by_cases d1 : b0 < 194 ∨ 244 < b0
  · refine ef 1 false (by unfold frontN; rw [if_neg d0, if_pos d1]) ?_
    have : firstT b0 = 241 := by unfold firstT; (repeat' split) <;> omega
    unfold pieceN
    rw [if_pos]
    rw [full, this]; omega
  -- the class of the first byte
  have cls : (b0 < 224 ∧ firstT b0 = 2) ∨ (b0 = 224 ∧ firstT b0 = 19) ∨ (b0 = 237 ∧ firstT b0 = 35) ∨ (224 < b0 ∧ b0 < 240 ∧ b0 ≠ 237 ∧ firstT b0 = 3) ∨ (b0 = 240 ∧ firstT b0 = 52) ∨ (b0 = 244 ∧ firstT b0 = 68) ∨ (240 < b0 ∧ b0 < 244 ∧ firstT b0 = 4) := by
    unfold firstT
    repeat' split
    all_goals omega
  have key : ∀ lo hi sz, accLo (firstT b0 / 16) = lo → accHi (firstT b0 / 16) = hi → firstT b0 % 8 = sz → (sec b0 b1 = true ↔ lo ≤ b1 ∧ b1 ≤ hi) → (sz = 2 ↔ b0 < 224) → (sz = 3 ↔ 224 ≤ b0 ∧ b0 < 240) → (2 ≤ sz ∧ sz ≤ 4) → pieceN n b0 b1 b2 = (frontN n b0 b1 b2 b3).1 := by
    intro lo hi sz h1 h2 h3 h4 h5 h6 h7
    rw [h1, h2, h3] at full
    by_cases d2 : 1 < n ∧ sec b0 b1 = true
    · by_cases d3 : b0 < 224
      · simp [frontN, d0, d1, d2, d3] at hw
      have g := h4.1 d2.2
      have n2 : ¬ (n ≤ 1 ∨ fullN 2 b0 b1 b2 = true) := by rw [full]; omega
      by_cases d4 : 2 < n ∧ cont b2 = true
      · by_cases d5 : b0 < 240
        · simp [frontN, d0, d1, d2, d3, d4, d5] at hw
        by_cases d6 : 3 < n ∧ cont b3 = true
        · simp [frontN, d0, d1, d2, d3, d4, d5, d6] at hw
        · refine ef 3 false (by unfold frontN; rw [if_neg d0, if_neg d1, if_neg (fun h => h d2), if_neg d3, if_neg (fun h => h d4), if_neg d5, if_pos d6]) ?_
          have g2 := s2.1 d4.2
          unfold pieceN
          rw [if_neg n2, if_neg (by rw [full]; omega)]
      · refine ef 2 false (by unfold frontN; rw [if_neg d0, if_neg d1, if_neg (fun h => h d2), if_neg d3, if_pos d4]) ?_
        rw [s2] at d4
        unfold pieceN
        rw [if_neg n2, if_pos (by rw [full]; omega)]
    · refine ef 1 false (by unfold frontN; rw [if_neg d0, if_neg d1, if_pos d2]) ?_
      unfold pieceN
      rw [if_pos]
      rw [full]
      rw [h4] at d2
      omega
  rcases cls with ⟨c, e⟩ | ⟨c, e⟩ | ⟨c, e⟩ | ⟨c, c', c'', e⟩ | ⟨c, e⟩ | ⟨c, e⟩ | ⟨c, c', e⟩
  · exact key 128 191 2 (by rw [e]; rfl) (by rw [e]; rfl) (by rw [e]) (by rw [s1]; omega) (by omega) (by omega) (by omega)
  · exact key 160 191 3 (by rw [e]; rfl) (by rw [e]; rfl) (by rw [e]) (by rw [s1]; omega) (by omega) (by omega) (by omega)
  · exact key 128 159 3 (by rw [e]; rfl) (by rw [e]; rfl) (by rw [e]) (by rw [s1]; omega) (by omega) (by omega) (by omega)
  · exact key 128 191 3 (by rw [e]; rfl) (by rw [e]; rfl) (by rw [e]) (by rw [s1]; omega) (by omega) (by omega) (by omega)
  · exact key 144 191 4 (by rw [e]; rfl) (by rw [e]; rfl) (by rw [e]) (by rw [s1]; omega) (by omega) (by omega) (by omega)
  · exact key 128 143 4 (by rw [e]; rfl) (by rw [e]; rfl) (by rw [e]) (by rw [s1]; omega) (by omega) (by omega) (by omega)
  · exact key 128 191 4 (by rw [e]; rfl) (by rw [e]; rfl) (by rw [e]) (by rw [s1]; omega) (by omega) (by omega) (by omega)

def piece (l : List UInt8) : Nat := pieceN l.length (B l 0) (B l 1) (B l 2)
theorem piece_broken (l : List UInt8) (h : l ≠ []) (hw : (front l).2 = false) : piece l = (front l).1 :=
  pieceN_front _ _ _ _ _ (by cases l with
    | nil => exact absurd rfl h
    | cons a r => simp) (B_lt _ _) hw
theorem piece_zero (l : List UInt8) (h0 : B l 0 = 0) : piece l = 1 := by
  unfold piece pieceN
  rw [h0, if_pos]
  right
  simp [fullN, firstT]
theorem piece_le (l : List UInt8) (h : l ≠ []) : 1 ≤ piece l ∧ piece l ≤ 3 ∧ piece l ≤ l.length :=
  pieceN_le _ _ _ _ (by cases l with
    | nil => exact absurd rfl h
    | cons a r => simp)
/-- What begins with no beginning is decoded to U+FFFD, one byte. -/
theorem dec_cont (l : List UInt8) (h : 128 ≤ B l 0 ∧ B l 0 ≤ 191) : dec l = (65533, 1) := by
  apply dec_broken
  unfold front frontN
  rw [if_neg (by omega), if_pos (by omega)]
end Go.Proofs.Ytmgbjkekfejnfaa.U8
