/- Plain Lean: a token hangs on what stands from its place on alone. Nothing of a program stands here. -/
import Derived.Test.YtgldgdopabmefaaDoorLexPl
namespace Go.Proofs.YtgldgdopabmefaaDoor.Tag
open Go.Lib
set_option maxRecDepth 100000
set_option linter.unusedVariables false

theorem skip_sh (p : UInt8 → Bool) (l : List UInt8) (k i : Nat) : skip p l (k + i) = k + skip p (l.drop k) i := by
  unfold skip
  rw [List.drop_drop]
  omega
theorem get_sh (l : List UInt8) (k i : Nat) : l[k + i]? = (l.drop k)[i]? := by rw [List.getElem?_drop]
theorem cut_sh (l : List UInt8) (k a b : Nat) : cutP l (k + a) (k + b) = cutP (l.drop k) a b := by
  unfold cutP
  rw [List.drop_drop, show k + b - (k + a) = b - a by omega]
theorem B_sh (l : List UInt8) (k i : Nat) : U8.B l (k + i) = U8.B (l.drop k) i := (U8.B_drop l k i).symm
theorem beg_sh (l : List UInt8) (k i : Nat) : begB l (k + i) = begB (l.drop k) i := by
  unfold begB
  rw [Nat.add_assoc, Nat.add_assoc, B_sh l k i, B_sh l k (i + 1), B_sh l k (i + 2), List.length_drop]
  have h1 : decide (k + (i + 1) < l.length) = decide (i + 1 < l.length - k) := by rw [Bool.eq_iff_iff]; simp; omega
  have h2 : decide (k + (i + 2) < l.length) = decide (i + 2 < l.length - k) := by rw [Bool.eq_iff_iff]; simp; omega
  rw [h1, h2]
theorem val_sh (l : List UInt8) (k i : Nat) (hk : k ≤ l.length) : valP l (k + i) = ((valP (l.drop k) i).1, k + (valP (l.drop k) i).2.1, (valP (l.drop k) i).2.2) := by
  have s1 := fun p i => skip_sh p l k i
  have s2 := get_sh l k
  have s3 := cut_sh l k
  unfold valP
  simp only [s1, s2, Nat.add_assoc, s3]
  cases hc : (l.drop k)[skip spB (l.drop k) i]? with
  | none => rfl
  | some c =>
    simp only
    by_cases h1 : c.toNat = 62
    · rw [if_pos h1, if_pos h1]
    rw [if_neg h1, if_neg h1]
    by_cases h2 : c.toNat = 34 ∨ c.toNat = 39
    · rw [if_pos h2, if_pos h2]
      by_cases h3 : skip (qtB c) (l.drop k) (skip spB (l.drop k) i + 1) = (l.drop k).length
      · rw [if_pos h3, if_pos (by rw [h3, List.length_drop]; omega)]
      · rw [if_neg h3, if_neg (by rw [List.length_drop] at h3; omega)]
    · rw [if_neg h2, if_neg h2]
def Next.move (k : Nat) : Next → Next
  | .no => .no
  | .ends a s => .ends (k + a) s
  | .on a n v => .on (k + a) n v
  | .past a => .past (k + a)
theorem round_sh (l : List UInt8) (k i : Nat) (hk : k ≤ l.length) : round l (k + i) = (round (l.drop k) i).move k := by
  have s1 := fun p i => skip_sh p l k i
  have s2 := get_sh l k
  have s3 := cut_sh l k
  have s4 := fun i => val_sh l k i hk
  unfold round
  simp only [s1, s2, Nat.add_assoc, s3, s4]
  cases hc : (l.drop k)[skip spB (l.drop k) i]? with
  | none => rfl
  | some c =>
    simp only
    by_cases h1 : c.toNat = 62
    · rw [if_pos h1, if_pos h1]; rfl
    rw [if_neg h1, if_neg h1]
    by_cases h2 : c.toNat = 47
    · rw [if_pos h2, if_pos h2]
      cases hd : (l.drop k)[skip spB (l.drop k) i + 1]? with
      | none => rfl
      | some d =>
        simp only
        by_cases h3 : d.toNat = 62
        · rw [if_pos h3, if_pos h3]; rfl
        · rw [if_neg h3, if_neg h3]; rfl
    rw [if_neg h2, if_neg h2]
    cases hd : (l.drop k)[skip spB (l.drop k) (skip (wdB true) (l.drop k) (skip spB (l.drop k) i + 1))]? with
    | none => rfl
    | some d =>
      simp only
      by_cases h3 : d.toNat = 61
      · rw [if_pos h3, if_pos h3]
        by_cases h4 : (valP (l.drop k) (skip spB (l.drop k) (skip (wdB true) (l.drop k) (skip spB (l.drop k) i + 1)) + 1)).2.2 = true
        · rw [if_pos h4, if_pos h4]; rfl
        · rw [if_neg h4, if_neg h4]; rfl
      · rw [if_neg h3, if_neg h3]; rfl
theorem run_sh (l : List UInt8) (k : Nat) (hk : k ≤ l.length) : ∀ (f i : Nat) (atts : List At), run l f (k + i) atts = (run (l.drop k) f i atts).map fun x => (x.1, k + x.2.1, x.2.2)
  | 0, i, atts => rfl
  | f + 1, i, atts => by
    unfold run
    rw [round_sh l k i hk]
    cases hr : round (l.drop k) i with
    | no => rfl
    | ends a s => rfl
    | past a => exact run_sh l k hk f a atts
    | on a n v => exact run_sh l k hk f a _
theorem runs_sh (l : List UInt8) (k i : Nat) (atts : List At) (hk : k ≤ l.length) (hi : k + i ≤ l.length) : runs l (k + i) atts = (runs (l.drop k) i atts).map fun x => (x.1, k + x.2.1, x.2.2) := by
  unfold runs
  rw [run_sh l k hk, run_more (l.drop k) (l.length + 1) ((l.drop k).length + 1) i atts (by rw [List.length_drop]; omega) (by rw [List.length_drop]; omega) (by omega)]
theorem from_sh (l : List UInt8) (k i : Nat) : fromP l (k + i) = k + fromP (l.drop k) i := by
  unfold fromP
  rw [Nat.add_assoc, B_sh]
  split <;> omega
theorem isEnd_sh (l : List UInt8) (k i : Nat) : isEnd l (k + i) = isEnd (l.drop k) i := by
  unfold isEnd
  rw [Nat.add_assoc, B_sh]
theorem nameEnd_sh (l : List UInt8) (k i : Nat) : nameEnd l (k + i) = k + nameEnd (l.drop k) i := by
  unfold nameEnd
  rw [from_sh, skip_sh]
theorem from_le2 {l : List UInt8} {i : Nat} (h : begB l i = true) : nameEnd l i ≤ l.length := by
  have hf : fromP l i ≤ l.length := by
    unfold begB at h
    unfold fromP
    simp only [Bool.and_eq_true, decide_eq_true_eq] at h
    split
    · rename_i h47
      rw [if_pos h47] at h
      simp only [Bool.and_eq_true, decide_eq_true_eq] at h
      omega
    · omega
  exact skip_le _ l _ hf
theorem read_sh (l : List UInt8) (k i : Nat) (hk : k ≤ l.length) (hb : begB l (k + i) = true) : readP l (k + i) = (readP (l.drop k) i).map fun x => (x.1, k + x.2) := by
  have h1 := from_le2 hb
  rw [nameEnd_sh] at h1
  unfold readP
  rw [nameEnd_sh, runs_sh l k _ [] hk h1, isEnd_sh, from_sh, cut_sh]
  cases runs (l.drop k) (nameEnd (l.drop k) i) [] with
  | none => rfl
  | some x => rfl
end Go.Proofs.YtgldgdopabmefaaDoor.Tag
namespace Go.Proofs.YtgldgdopabmefaaDoor.Lex
open Go.Lib
set_option maxRecDepth 100000
set_option linter.unusedVariables false

theorem mark_sh (l : List UInt8) (k i : Nat) : markB l (k + i) = markB (l.drop k) i := by
  unfold markB
  rw [Tag.beg_sh, List.drop_drop]
theorem upF_sh (l : List UInt8) (k : Nat) : ∀ (n i : Nat), upF l n (k + i) = k + upF (l.drop k) n i
  | 0, i => rfl
  | n + 1, i => by
    unfold upF
    rw [mark_sh, Nat.add_assoc, upF_sh l k n (i + 1)]
    split <;> rfl
theorem upM_sh (l : List UInt8) (k i : Nat) : upM l (k + i) = k + upM (l.drop k) i := by
  unfold upM
  rw [upF_sh, List.length_drop, show l.length - (k + i) = l.length - k - i by omega]
theorem rawT_sh (l small : List UInt8) (m k i : Nat) : rawT l small m (k + i) = rawT (l.drop k) small m i := by
  unfold rawT
  rw [List.drop_drop]
theorem rawE_sh (l small : List UInt8) (m k i : Nat) : rawE l small m (k + i) = k + rawE (l.drop k) small m i := by
  unfold rawE
  rw [List.drop_drop]
  omega
theorem from__sh (l small : List UInt8) (m k i : Nat) : from_ l small m (k + i) = k + from_ (l.drop k) small m i := by
  unfold from_
  rw [rawE_sh]
  split <;> rfl
theorem markT_sh (l : List UInt8) (cd : Bool) (k j : Nat) (hk : k ≤ l.length) : mark l cd (k + j) = ((mark (l.drop k) cd j).1, k + (mark (l.drop k) cd j).2.1, (mark (l.drop k) cd j).2.2) := by
  unfold mark
  rw [Tag.beg_sh]
  by_cases h1 : Tag.begB (l.drop k) j = true
  · rw [if_pos h1, if_pos h1, Tag.read_sh l k j hk (by rw [Tag.beg_sh]; exact h1)]
    cases Tag.readP (l.drop k) j with
    | none =>
      simp only [Option.map_none, List.length_drop]
      rw [show k + (l.length - k) = l.length by omega]
    | some x => rfl
  rw [if_neg h1, if_neg h1, List.drop_drop]
  by_cases h2 : Note.begB (l.drop (k + j)) = true
  · rw [if_pos h2, if_pos h2]
    simp only [Nat.add_assoc]
  · rw [if_neg h2, if_neg h2]
    rw [Nat.add_assoc, upM_sh, show k + upM (l.drop k) (j + 1) - (k + j) = upM (l.drop k) (j + 1) - j by omega]
theorem nextF_sh (l small : List UInt8) (m : Nat) (cd : Bool) (k : Nat) (hk : k ≤ l.length) : ∀ (f i : Nat), nextF l small m cd f (k + i) = ((nextF (l.drop k) small m cd f i).1, k + (nextF (l.drop k) small m cd f i).2)
  | 0, i => by
    show (last, l.length) = (last, k + (l.drop k).length)
    rw [List.length_drop, show k + (l.length - k) = l.length by omega]
  | f + 1, i => by
    unfold nextF
    rw [rawT_sh, rawE_sh, from__sh, markT_sh l cd k _ hk, List.length_drop]
    by_cases h1 : l.length - k ≤ i
    · rw [if_pos h1, if_pos (by omega)]
      simp only
      rw [show k + (l.length - k) = l.length by omega]
    rw [if_neg h1, if_neg (by omega)]
    by_cases h2 : rawM m = true ∧ rawT (l.drop k) small m i ≠ []
    · rw [if_pos h2, if_pos h2]
    rw [if_neg h2, if_neg h2]
    by_cases h3 : l.length - k ≤ from_ (l.drop k) small m i
    · rw [if_pos h3, if_pos (by omega)]
    rw [if_neg h3, if_neg (by omega)]
    by_cases h4 : (mark (l.drop k) cd (from_ (l.drop k) small m i)).2.2 = true
    · rw [if_pos h4, if_pos h4]
      exact nextF_sh l small m cd k hk f _
    · rw [if_neg h4, if_neg h4]
theorem next_sh (l small : List UInt8) (m : Nat) (cd : Bool) (k i : Nat) (hk : k ≤ l.length) : next l small m cd (k + i) = ((next (l.drop k) small m cd i).1, k + (next (l.drop k) small m cd i).2) := by
  unfold next
  rw [nextF_fuel (l.length + 1) (l.length + 1 + 1) (k + i) (by omega) (by omega), nextF_sh l small m cd k hk, nextF_fuel (l.length + 1 + 1) ((l.drop k).length + 1) i (by rw [List.length_drop]; omega) (by omega)]
end Go.Proofs.YtgldgdopabmefaaDoor.Lex
