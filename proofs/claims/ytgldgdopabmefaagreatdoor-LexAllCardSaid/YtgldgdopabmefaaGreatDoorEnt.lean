/- Plain Lean: numbers of characters, references, decoding, as the chapter says them over lists of bytes. Nothing of a program stands here. -/
import Derived.Test.YtgldgdopabmefaaGreatDoorEntTab
import Derived.Test.YtgldgdopabmefaaGreatDoorRefHex
import Derived.Lib.CutLaws
namespace Go.Proofs.YtgldgdopabmefaaGreatDoor.Ent
open Go.Lib U8
set_option maxRecDepth 100000
set_option linter.unusedVariables false

/-! ### the character of a number -/
def rightI (n : Int) : Bool := decide (0 < n ∧ n ≤ 1114111 ∧ (n < 55296 ∨ 57343 < n))
def win : List Nat := [8364, 0, 8218, 402, 8222, 8230, 8224, 8225, 710, 8240, 352, 8249, 338, 0, 381, 0, 0, 8216, 8217, 8220, 8221, 8226, 8211, 8212, 732, 8482, 353, 8250, 339, 0, 382, 376]
def ctl : List Nat := [8364, 129, 8218, 402, 8222, 8230, 8224, 8225, 710, 8240, 352, 8249, 338, 141, 381, 143, 144, 8216, 8217, 8220, 8221, 8226, 8211, 8212, 732, 8482, 353, 8250, 339, 157, 382, 376]
def charZ (n : Int) : Int := if rightI n = true then n else 65533
def numZ (n : Int) : Int := if 128 ≤ n ∧ n < 160 then (ctl.getD (n - 128).toNat 0 : Nat) else charZ n
theorem ctl_win : ∀ i, i < 32 → ctl.getD i 0 = (if win.getD i 0 = 0 then i + 128 else win.getD i 0) ∧ win.getD i 0 < 55296 := by decide +kernel
theorem numZ_ok (n : Int) : 0 ≤ charZ n ∧ charZ n ≤ 1114111 ∧ 0 ≤ numZ n ∧ numZ n ≤ 1114111 := by
  have h1 : 0 ≤ charZ n ∧ charZ n ≤ 1114111 := by
    unfold charZ
    split
    · rename_i h; simp [rightI] at h; omega
    · omega
  refine ⟨h1.1, h1.2, ?_⟩
  unfold numZ
  split
  · have := ctl_win (n - 128).toNat (by omega)
    split at this <;> omega
  · exact h1
theorem charZ_okC (n : Int) : TxtC (charZ n).toNat := by
  unfold charZ
  split
  · rename_i h; simp [rightI] at h; unfold TxtC OkC; omega
  · unfold TxtC OkC; omega
theorem numZ_okC (n : Int) : TxtC (numZ n).toNat := by
  unfold numZ
  split
  · have := ctl_win (n - 128).toNat (by omega)
    unfold TxtC OkC
    split at this <;> omega
  · exact charZ_okC n
/-- Greater numbers need not be told apart. -/
theorem charZ_min (v m : Int) (hm : 1114112 ≤ m) : charZ (min v m) = charZ v := by
  by_cases h : v ≤ m
  · rw [Int.min_eq_left h]
  · rw [Int.min_eq_right (by omega)]
    have e1 : rightI m = false := decide_eq_false (by omega)
    have e2 : rightI v = false := decide_eq_false (by omega)
    unfold charZ
    rw [e1, e2]
    rfl
theorem numZ_min (v m : Int) (hm : 1114112 ≤ m) : numZ (min v m) = numZ v := by
  by_cases h : v ≤ m
  · rw [Int.min_eq_left h]
  · have := charZ_min v m hm
    rw [Int.min_eq_right (by omega)] at this ⊢
    unfold numZ
    rw [if_neg (by omega), if_neg (by omega), this]

/-! ### digits -/
def isDig (base : Nat) (c : UInt8) : Bool := decide (0 ≤ hexN c.toNat ∧ hexN c.toNat < base)
def run (base : Nat) (l : List UInt8) : List UInt8 := l.takeWhile (isDig base)
def valF (base : Nat) (v : Nat) (c : UInt8) : Nat := v * base + (hexN c.toNat).toNat
def valL (base : Nat) (l : List UInt8) : Nat := l.foldl (valF base) 0
theorem run_le (base : Nat) (l : List UInt8) : (run base l).length ≤ l.length := (List.takeWhile_prefix _).length_le
theorem hexN_lt (c : Nat) : hexN c < 16 ∧ -1 ≤ hexN c := by unfold hexN; repeat' split <;> omega
theorem run_step {base : Nat} {l : List UInt8} {i : Nat} (h : i < l.length) (hp : (run base l).length ≥ i) : (isDig base l[i] = true → (run base l).length ≥ i + 1) ∧ (isDig base l[i] = false → (run base l).length = i) := by
  have key : ∀ (l : List UInt8) (i : Nat) (h : i < l.length), (l.takeWhile (isDig base)).length ≥ i → (isDig base l[i] = true → (l.takeWhile (isDig base)).length ≥ i + 1) ∧ (isDig base l[i] = false → (l.takeWhile (isDig base)).length = i) := by
    intro l
    induction l with
    | nil => intro i h; simp at h
    | cons c r ih =>
      intro i h hp
      cases hc : isDig base c with
      | false =>
        simp [hc] at hp ⊢
        subst hp
        simp [hc]
      | true =>
        simp only [List.takeWhile_cons, hc, if_true, List.length_cons] at hp ⊢
        cases i with
        | zero => simp [hc]
        | succ i =>
          have := ih i (by simpa using h) (by omega)
          simp only [List.getElem_cons_succ]
          exact ⟨fun x => by have := this.1 x; omega, fun x => by have := this.2 x; omega⟩
  exact key l i h hp
theorem run_take (base : Nat) (l : List UInt8) : run base l = l.take (run base l).length := List.prefix_iff_eq_take.1 (List.takeWhile_prefix _)
theorem val_step (base : Nat) (l : List UInt8) (i : Nat) (h : i < l.length) : valL base (l.take (i + 1)) = valL base (l.take i) * base + (hexN l[i].toNat).toNat := by
  unfold valL
  rw [List.take_succ_eq_append_getElem h, List.foldl_append]
  rfl
theorem min_step (v m b d : Int) (hv : 0 ≤ v) (hm : 0 ≤ m) (hb : 1 ≤ b) (hd : 0 ≤ d) : min (min v m * b + d) m = min (v * b + d) m := by
  by_cases h : v ≤ m
  · rw [Int.min_eq_left h]
  · rw [Int.min_eq_right (by omega : m ≤ v)]
    have h1 : m ≤ m * b := by have := Int.mul_le_mul_of_nonneg_left hb hm; simpa using this
    have h2 : m * b ≤ v * b := Int.mul_le_mul_of_nonneg_right (by omega) (by omega)
    rw [Int.min_eq_right (by omega), Int.min_eq_right (by omega)]

/-! ### a number as a reference has it -/
def isX (l : List UInt8) : Bool := decide (1 < l.length ∧ (B l 1 = 120 ∨ B l 1 = 88))
def baseOf (l : List UInt8) : Nat := if isX l = true then 16 else 10
def headOf (l : List UInt8) : Nat := if isX l = true then 2 else 1
def mostOf (l : List UInt8) : Nat := if isX l = true then 6 else 7
/-- The digits behind '#'; none where there is no '#'. -/
def digs (l : List UInt8) : List UInt8 := if 0 < l.length ∧ B l 0 = 35 then run (baseOf l) (l.drop (headOf l)) else []
def numV (l : List UInt8) : Nat := valL (baseOf l) (digs l)
def numW (l : List UInt8) : Nat := headOf l + (digs l).length
theorem digs_le {l : List UInt8} (h : digs l ≠ []) : numW l ≤ l.length ∧ 2 ≤ numW l ∧ 0 < l.length ∧ B l 0 = 35 ∧ 1 ≤ (digs l).length := by
  have h1 : 1 ≤ (digs l).length := by cases hd : digs l with | nil => exact absurd hd h | cons a b => simp
  unfold digs at h
  split at h
  · rename_i hc
    have hd : digs l = run (baseOf l) (l.drop (headOf l)) := by unfold digs; rw [if_pos hc]
    have h2 := run_le (baseOf l) (l.drop (headOf l))
    rw [← hd] at h2
    simp at h2
    unfold numW
    have h3 : headOf l = 1 ∨ headOf l = 2 := by unfold headOf; split <;> simp
    refine ⟨by omega, by omega, hc.1, hc.2, h1⟩
  · exact absurd rfl h
def semiW (l : List UInt8) : Nat := if 0 < l.length ∧ B l 0 = 59 then 1 else 0

/-! ### references -/
def goesOn (l : List UInt8) : Bool := decide (0 < l.length ∧ (B l 0 = 61 ∨ letterN (B l 0) = true ∨ digitN (B l 0) = true))
/-- The name counts, whatever stands behind it. -/
def refuses (attr : Bool) (l : List UInt8) : Bool := attr && decide (B l ((named l).2 - 1) ≠ 59) && goesOn (l.drop (named l).2)
/-- What an '&' stands for that has l behind it, and how many bytes of l belong to it. -/
def refer (attr : Bool) (l : List UInt8) : List UInt8 × Nat :=
  if digs l ≠ [] then (encN (numZ (numV l)).toNat, numW l + semiW (l.drop (numW l)))
  else if (named l).2 = 0 ∨ refuses attr l = true then ([38], 0) else named l
theorem refer_le (attr : Bool) (l : List UInt8) : (refer attr l).2 ≤ l.length ∧ (refer attr l).1.length ≤ 7 ∧ (refer attr l).1 ≠ [] := by
  unfold refer
  split
  · rename_i h
    have h1 := digs_le h
    have h2 := encN_len (numZ (numV l)).toNat
    refine ⟨?_, by simp only; omega, encN_ne _⟩
    simp only
    unfold semiW
    split
    · rename_i hs; simp at hs; omega
    · omega
  · split
    · simp
    · rename_i h1 h2
      have h3 := named_cases l
      exact ⟨h3.1, h3.2.2.1, fun e => h2 (.inl (h3.2.2.2.2 e))⟩

/-! ### decoding -/
def decF : Nat → Bool → List UInt8 → List UInt8
  | 0, _, _ => []
  | f + 1, attr, l => match l with
    | [] => []
    | c :: r => if c = 38 then (refer attr r).1 ++ decF f attr (r.drop (refer attr r).2) else c :: decF f attr r
def decode (attr : Bool) (l : List UInt8) : List UInt8 := decF l.length attr l
theorem decF_fuel (attr : Bool) : ∀ (f g : Nat) (l : List UInt8), l.length ≤ f → l.length ≤ g → decF f attr l = decF g attr l
  | 0, g, l, hf, _ => by
    obtain rfl : l = [] := List.length_eq_zero_iff.1 (by omega)
    cases g <;> simp [decF]
  | f + 1, 0, l, _, hg => by
    obtain rfl : l = [] := List.length_eq_zero_iff.1 (by omega)
    simp [decF]
  | f + 1, g + 1, [], hf, hg => by simp [decF]
  | f + 1, g + 1, c :: r, hf, hg => by
    simp at hf hg
    simp only [decF]
    rw [decF_fuel attr f g r hf hg, decF_fuel attr f g (r.drop (refer attr r).2) (by simp; omega) (by simp; omega)]
theorem decode_nil (attr : Bool) : decode attr [] = [] := rfl
theorem decode_other (attr : Bool) (c : UInt8) (r : List UInt8) (h : c ≠ 38) : decode attr (c :: r) = c :: decode attr r := by
  show decF (r.length + 1) attr (c :: r) = _
  simp only [decF]
  rw [if_neg h]; rfl
theorem decode_amp (attr : Bool) (r : List UInt8) : decode attr (38 :: r) = (refer attr r).1 ++ decode attr (r.drop (refer attr r).2) := by
  show decF (r.length + 1) attr (38 :: r) = _
  simp only [decF, if_true]
  rw [decF_fuel attr r.length (r.drop (refer attr r).2).length _ (by simp) (Nat.le_refl _)]
  rfl
theorem decode_append (attr : Bool) : ∀ (p q : List UInt8), (∀ c ∈ p, c ≠ 38) → decode attr (p ++ q) = p ++ decode attr q
  | [], _, _ => rfl
  | c :: p, q, h => by
    rw [List.cons_append, decode_other attr c _ (h c (by simp)), decode_append attr p q (fun x hx => h x (List.mem_cons_of_mem _ hx))]
    rfl
/-- Induction by what is decoded. -/
theorem decodes {P : List UInt8 → Prop} (attr : Bool) (h0 : P []) (h1 : ∀ c r, c ≠ 38 → P r → P (c :: r)) (h2 : ∀ r, P (r.drop (refer attr r).2) → P (38 :: r)) : ∀ l, P l := by
  have key : ∀ n (l : List UInt8), l.length ≤ n → P l := by
    intro n
    induction n with
    | zero => intro l hl; obtain rfl : l = [] := List.length_eq_zero_iff.1 (by omega); exact h0
    | succ n ih =>
      intro l hl
      cases l with
      | nil => exact h0
      | cons c r =>
        simp at hl
        by_cases hc : c = 38
        · subst hc
          exact h2 r (ih _ (by simp; omega))
        · exact h1 c r hc (ih r hl)
  exact fun l => key l.length l (Nat.le_refl _)
theorem decode_le (attr : Bool) : ∀ l, (decode attr l).length ≤ 7 * l.length := by
  refine decodes (P := fun l => (decode attr l).length ≤ 7 * l.length) attr ?_ ?_ ?_
  · simp [decode_nil]
  · intro c r hc ih
    rw [decode_other attr c r hc]
    simp; omega
  · intro r ih
    have := refer_le attr r
    rw [decode_amp]
    simp at ih ⊢
    omega
/-- Up to the first '&'. -/
theorem cut_amp : ∀ l : List UInt8, (∃ p q, cut l [38] = (p, q, true) ∧ l = p ++ 38 :: q ∧ ∀ c ∈ p, c ≠ 38) ∨ (cut l [38] = (l, [], false) ∧ ∀ c ∈ l, c ≠ 38)
  | [] => .inr ⟨rfl, by simp⟩
  | c :: r => by
    by_cases hc : c = 38
    · subst hc
      refine .inl ⟨[], r, ?_, rfl, by simp⟩
      unfold cut index
      simp
    · have e : index (c :: r) [38] = if index r [38] == -1 then -1 else index r [38] + 1 := by
        conv => lhs; unfold index
        rw [if_neg (by simp [Ne.symm hc])]
      have hge := index_ge r [38]
      rcases cut_amp r with ⟨p, q, h1, h2, h3⟩ | ⟨h1, h2⟩
      · have hi : 0 ≤ index r [38] := by
          apply Classical.byContradiction
          intro hn
          unfold cut at h1
          rw [if_neg hn] at h1
          simp at h1
        have e2 : index (c :: r) [38] = index r [38] + 1 := by rw [e, if_neg (by simp; omega)]
        unfold cut at h1
        rw [if_pos hi] at h1
        refine .inl ⟨c :: p, q, ?_, by rw [h2]; rfl, ?_⟩
        · unfold cut
          rw [e2, if_pos (by omega)]
          have e3 : (index r [38] + 1).toNat = (index r [38]).toNat + 1 := by omega
          simp only [Prod.mk.injEq] at h1
          rw [e3, List.take_succ_cons, h1.1]
          have e4 : (index r [38]).toNat + 1 + [(38 : UInt8)].length = ((index r [38]).toNat + [(38 : UInt8)].length) + 1 := by simp
          rw [e4, List.drop_succ_cons, h1.2.1]
        · intro x hx
          rcases List.mem_cons.1 hx with rfl | hx
          · exact hc
          · exact h3 x hx
      · have hi : ¬ 0 ≤ index r [38] := by
          intro hn
          unfold cut at h1
          rw [if_pos hn] at h1
          simp at h1
        have e2 : index (c :: r) [38] = -1 := by rw [e, if_pos (by simp; omega)]
        refine .inr ⟨?_, ?_⟩
        · unfold cut
          rw [e2, if_neg (by omega)]
        · intro x hx
          rcases List.mem_cons.1 hx with rfl | hx
          · exact hc
          · exact h2 x hx

/-! ### marks -/
def signAt (l : List UInt8) (j : Nat) : Bool := decide (j < l.length ∧ B l j = 59)
/-- The reference that '&' begins with l behind it, as Markdown has it; the bytes are those of l. -/
def markR (l : List UInt8) : List UInt8 × Nat :=
  if digs l ≠ [] then (if mostOf l < (digs l).length ∨ signAt l (numW l) = false then ([], 0) else (encN (charZ (numV l)).toNat, 2 + numW l))
  else if (named l).2 = 0 ∨ B l ((named l).2 - 1) ≠ 59 then ([], 0) else ((named l).1, 1 + (named l).2)
def mark : List UInt8 → List UInt8 × Nat
  | [] => ([], 0)
  | c :: r => if c = 38 then markR r else ([], 0)
end Go.Proofs.YtgldgdopabmefaaGreatDoor.Ent
