/- Plain Lean: what holds at each round of the loop that makes a text of bytes. Nothing of a program stands here. -/
import Derived.Test.YtmgbjkekfejnfaaDec
namespace Go.Proofs.Ytmgbjkekfejnfaa.U8
open Go.Lib

/-- At place pos, what is broken ending at k, acc has been told. -/
def TInv (l : List UInt8) (pos k : Nat) (acc : List UInt8) : Prop :=
  pos ≤ l.length ∧ acc.length ≤ 3 * pos ∧ k ≤ l.length + 3 ∧
  ((k ≤ pos ∧ acc ++ plain (l.drop pos) = plain l) ∨ (pos < k ∧ k ≤ l.length ∧ acc ++ plain (l.drop k) = plain l ∧ ∀ j, pos ≤ j → j < k → 128 ≤ B l j ∧ B l j ≤ 191))

theorem TInv.start (l : List UInt8) : TInv l 0 0 [] := ⟨by omega, by simp, by omega, .inl ⟨by omega, by simp⟩⟩
theorem TInv.le {l : List UInt8} {pos k : Nat} {acc : List UInt8} (h : TInv l pos k acc) : pos ≤ l.length ∧ acc.length ≤ 3 * pos ∧ k ≤ l.length + 3 := ⟨h.1, h.2.1, h.2.2.1⟩
theorem TInv.done {l : List UInt8} {pos k : Nat} {acc : List UInt8} (h : TInv l pos k acc) (hp : ¬ pos < l.length) : acc = plain l := by
  obtain ⟨h1, _, _, h2 | h2⟩ := h
  · rw [← h2.2, List.drop_of_length_le (by omega), plain_nil, List.append_nil]
  · omega
theorem drop_ne {l : List UInt8} {pos : Nat} (h : pos < l.length) : l.drop pos ≠ [] := by
  intro e
  have := congrArg List.length e
  simp at this; omega
theorem TInv.skip {l : List UInt8} {pos k : Nat} {acc : List UInt8} (h : TInv l pos k acc) (hk : pos < k) (hp : pos < l.length) : dec (l.drop pos) = (65533, 1) ∧ TInv l (pos + 1) k acc := by
  obtain ⟨h1, h3, h4, h2 | ⟨_, g2, g3, g4⟩⟩ := h
  · omega
  · refine ⟨dec_cont _ (by rw [B_drop]; exact g4 pos (by omega) hk), by omega, by omega, h4, ?_⟩
    by_cases hk2 : pos + 1 < k
    · exact .inr ⟨hk2, g2, g3, fun j j1 j2 => g4 j (by omega) j2⟩
    · obtain rfl : k = pos + 1 := by omega
      exact .inl ⟨Nat.le_refl _, g3⟩
/-- A character that is none, or is U+FFFD. -/
theorem TInv.bad {l : List UInt8} {pos k : Nat} {acc : List UInt8} (h : TInv l pos k acc) (hk : ¬ pos < k) (hp : pos < l.length) (hr : (dec (l.drop pos)).1 = 0 ∨ (dec (l.drop pos)).1 = 65533) :
    TInv l (pos + (dec (l.drop pos)).2) (pos + piece (l.drop pos)) (acc ++ encodeRune 65533) := by
  obtain ⟨h1, h3, h4, ⟨_, h2⟩ | h2⟩ := h
  case inr => omega
  have hne := drop_ne hp
  have hl := front_le _ hne
  have hpl := piece_le _ hne
  have hlen : (l.drop pos).length = l.length - pos := by simp
  have eb : encodeRune 65533 = U8.bad := by decide
  have ebl : U8.bad.length = 3 := rfl
  rw [eb]
  rw [plain_step _ hne, List.drop_drop, ← List.append_assoc] at h2
  cases hw : (front (l.drop pos)).2 with
  | false =>
    have hd := dec_broken _ hw
    have hso : stepOut (l.drop pos) = U8.bad := by unfold stepOut; rw [if_neg (by simp [hw])]
    rw [hso] at h2
    rw [hd, piece_broken _ hne hw]
    refine ⟨by simp only; omega, by simp [ebl]; omega, by omega, ?_⟩
    by_cases h5 : (front (l.drop pos)).1 = 1
    · rw [h5] at h2 ⊢
      exact .inl ⟨Nat.le_refl _, h2⟩
    · refine .inr ⟨by simp only; omega, by omega, h2, fun j j1 j2 => ?_⟩
      have := front_tail (l.drop pos) (j - pos) (by simp only at j1; omega) (by omega)
      rw [B_drop, show pos + (j - pos) = j by simp only at j1; omega] at this
      exact this
  | true =>
    obtain ⟨r, e1, e2, e3, _⟩ := dec_whole _ hne hw
    rw [e1] at hr ⊢
    simp only at hr ⊢
    have hso : stepOut (l.drop pos) = U8.bad := by
      unfold stepOut
      rcases hr with hr | hr
      · rw [if_neg (by rw [e3.1 hr]; simp)]
      · obtain ⟨f1, f2⟩ := dec_fffd _ hne hw (by rw [e1]; exact hr)
        split
        · rw [f1, f2]
        · rfl
    rw [hso] at h2
    have hpf : piece (l.drop pos) ≤ (front (l.drop pos)).1 := by
      rcases hr with hr | hr
      · rw [piece_zero _ (e3.1 hr)]; omega
      · obtain ⟨f1, _⟩ := dec_fffd _ hne hw (by rw [e1]; exact hr)
        omega
    exact ⟨by omega, by simp [ebl]; omega, by omega, .inl ⟨by omega, h2⟩⟩
/-- Another character. -/
theorem TInv.good {l : List UInt8} {pos k : Nat} {acc : List UInt8} (h : TInv l pos k acc) (hk : ¬ pos < k) (hp : pos < l.length) (h0 : (dec (l.drop pos)).1 ≠ 0) (hr : (dec (l.drop pos)).1 ≠ 65533) :
    TInv l (pos + (dec (l.drop pos)).2) k (acc ++ encodeRune (dec (l.drop pos)).1) := by
  obtain ⟨h1, h3, h4, ⟨_, h2⟩ | h2⟩ := h
  case inr => omega
  have hne := drop_ne hp
  have hl := front_le _ hne
  have hlen : (l.drop pos).length = l.length - pos := by simp
  cases hw : (front (l.drop pos)).2 with
  | false => exact absurd (by rw [dec_broken _ hw]) hr
  | true =>
    obtain ⟨r, e1, e2, e3, _⟩ := dec_whole _ hne hw
    rw [e1] at h0 ⊢
    simp only at h0 ⊢
    have hb0 : B (l.drop pos) 0 ≠ 0 := fun e => h0 (e3.2 e)
    have hso : stepOut (l.drop pos) = encodeRune r := by rw [stepOut, if_pos ⟨hw, hb0⟩, e2]
    rw [plain_step _ hne, List.drop_drop, ← List.append_assoc, hso] at h2
    have hlr : (encodeRune r).length = (front (l.drop pos)).1 := by rw [e2]; simp; omega
    exact ⟨by omega, by simp [hlr]; omega, by omega, .inl ⟨by omega, h2⟩⟩
theorem dec_width (l : List UInt8) (h : l ≠ []) : 1 ≤ (dec l).2 ∧ (dec l).2 ≤ l.length ∧ (dec l).1 ≤ 1114111 := by
  have hl := front_le l h
  cases hw : (front l).2 with
  | false => rw [dec_broken l hw]; exact ⟨Nat.le_refl _, by simp only; omega, by simp only; omega⟩
  | true =>
    obtain ⟨r, e1, _, _, e4⟩ := dec_whole l h hw
    rw [e1]; exact ⟨hl.1, hl.2.1, e4⟩

/-! ### is it a text: what holds at each round -/
def RInv (l : List UInt8) (pos : Nat) : Prop := pos ≤ l.length ∧ right l = right (l.drop pos)
theorem RInv.start (l : List UInt8) : RInv l 0 := ⟨by omega, by simp⟩
theorem RInv.done {l : List UInt8} {pos : Nat} (h : RInv l pos) (hp : ¬ pos < l.length) : right l = true := by
  rw [h.2, List.drop_of_length_le (by omega), right_nil]
theorem RInv.zero {l : List UInt8} {pos : Nat} (h : RInv l pos) (hp : pos < l.length) (h0 : (dec (l.drop pos)).1 = 0) : right l = false := by
  have hne := drop_ne hp
  rw [h.2, right_step _ hne]
  cases hw : (front (l.drop pos)).2 with
  | false => rw [dec_broken _ hw] at h0; simp at h0
  | true =>
    obtain ⟨r, e1, e2, e3, _⟩ := dec_whole _ hne hw
    rw [e1] at h0
    simp [e3.1 h0]
theorem hasPrefix_bad (l : List UInt8) : hasPrefix l bad = true ↔ l.take 3 = bad := by
  unfold hasPrefix
  rw [List.isPrefixOf_iff_prefix, List.prefix_iff_eq_take]
  exact ⟨fun h => h.symm, fun h => h.symm⟩
theorem RInv.broken {l : List UInt8} {pos : Nat} (h : RInv l pos) (hp : pos < l.length) (h0 : (dec (l.drop pos)).1 = 65533) (hh : hasPrefix (l.drop pos) bad = false) : right l = false := by
  have hne := drop_ne hp
  rw [h.2, right_step _ hne]
  cases hw : (front (l.drop pos)).2 with
  | false => rfl
  | true =>
    obtain ⟨_, f2⟩ := dec_fffd _ hne hw h0
    rw [(hasPrefix_bad _).2 f2] at hh
    cases hh
theorem RInv.whole {l : List UInt8} {pos : Nat} (h : RInv l pos) (hp : pos < l.length) (h0 : (dec (l.drop pos)).1 ≠ 0) (hh : (dec (l.drop pos)).1 = 65533 → hasPrefix (l.drop pos) bad = true) : RInv l (pos + (dec (l.drop pos)).2) := by
  have hne := drop_ne hp
  have hl := front_le _ hne
  have hlen : (l.drop pos).length = l.length - pos := by simp
  have hw : (front (l.drop pos)).2 = true := by
    cases hw : (front (l.drop pos)).2 with
    | true => rfl
    | false =>
      have := (hasPrefix_bad _).1 (hh (by rw [dec_broken _ hw]))
      have e : l.drop pos = bad ++ (l.drop pos).drop 3 := by rw [← this, List.take_append_drop]
      rw [e, bad_front] at hw
      cases hw
  obtain ⟨r, e1, e2, e3, _⟩ := dec_whole _ hne hw
  rw [e1] at h0 ⊢
  refine ⟨by simp only; omega, ?_⟩
  rw [h.2, right_step _ hne, hw, List.drop_drop]
  have : B (l.drop pos) 0 ≠ 0 := fun e => h0 (e3.2 e)
  simp [this]
end Go.Proofs.Ytmgbjkekfejnfaa.U8
