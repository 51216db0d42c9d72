/- Plain Lean: what package url says, over lists of bytes. Nothing of a program stands here. -/
import Derived.Test.YtpheaepifjcmiaaDoorTrim
import Derived.Test.YtpheaepifjcmiaaDoorClass
import Derived.Test.YtpheaepifjcmiaaDoorByteN
import Derived.Lib.CutLaws
namespace Go.Proofs.YtpheaepifjcmiaaDoor.Url
open Go.Lib
set_option maxRecDepth 100000
set_option linter.unusedVariables false

/-! ### Strip -/
def keepB (c : UInt8) : Bool := decide (c.toNat ≠ 9 ∧ c.toNat ≠ 10 ∧ c.toNat ≠ 13)
def strip (l : List UInt8) : List UInt8 := (cutR (cutL l)).filter keepB
theorem strip_le (l : List UInt8) : (strip l).length ≤ l.length :=
  Nat.le_trans (List.length_filter_le _ _) (Nat.le_trans (cutR_le _) (cutL_le _))
theorem not_keep {c : UInt8} (h : keepB c = false) : c.toNat ≤ 32 := by
  simp only [keepB, decide_eq_false_iff_not] at h; omega
theorem cutL_keep : ∀ l : List UInt8, (cutL l).filter keepB = cutL (l.filter keepB)
  | [] => rfl
  | c :: l => by
    by_cases hk : keepB c = true
    · rw [List.filter_cons, if_pos hk]
      by_cases hc : c.toNat ≤ 32
      · rw [cutL_yes hc, cutL_yes hc]; exact cutL_keep l
      · rw [cutL_no hc, cutL_no hc, List.filter_cons, if_pos hk]
    · have hk' : keepB c = false := by simpa using hk
      rw [List.filter_cons, if_neg hk, cutL_yes (not_keep hk')]
      exact cutL_keep l
theorem cutR_eq (l : List UInt8) : cutR l = (cutL l.reverse).reverse := rfl
theorem cutR_keep (l : List UInt8) : (cutR l).filter keepB = cutR (l.filter keepB) := by
  rw [cutR_eq, cutR_eq, List.filter_reverse, cutL_keep, List.filter_reverse]
theorem strip_keep (l : List UInt8) : strip l = cutR (cutL (l.filter keepB)) := by
  unfold strip; rw [cutR_keep, cutL_keep]
/-- A byte that is left out may stand anywhere. -/
theorem strip_in (a b : List UInt8) (c : UInt8) (h : keepB c = false) : strip (a ++ c :: b) = strip (a ++ b) := by
  rw [strip_keep, strip_keep, List.filter_append, List.filter_append, List.filter_cons, if_neg (by rw [h]; decide)]
theorem cutL_front : ∀ (f l : List UInt8), (∀ c ∈ f, c.toNat ≤ 32) → cutL (f ++ l) = cutL l
  | [], l, _ => rfl
  | c :: f, l, h => by
    rw [List.cons_append, cutL_yes (h c (List.mem_cons_self ..))]
    exact cutL_front f l fun d hd => h d (List.mem_cons_of_mem _ hd)
theorem cutR_back (f l : List UInt8) (h : ∀ c ∈ f, c.toNat ≤ 32) : cutR (l ++ f) = cutR l := by
  rw [cutR_eq, cutR_eq, List.reverse_append, cutL_front _ _ fun c hc => h c (List.mem_reverse.1 hc)]
theorem cutL_all (l : List UInt8) (h : ∀ c ∈ l, c.toNat ≤ 32) : cutL l = [] := by
  have := cutL_front l [] h
  rwa [List.append_nil] at this
/-- Behind the first byte that stands, all stands. -/
theorem cutL_cases : ∀ l : List UInt8, (∀ c ∈ l, c.toNat ≤ 32) ∨ ∃ a c b, l = a ++ c :: b ∧ (∀ d ∈ a, d.toNat ≤ 32) ∧ ¬ c.toNat ≤ 32
  | [] => .inl (fun c h => by cases h)
  | c :: l => by
    by_cases hc : c.toNat ≤ 32
    · rcases cutL_cases l with h | ⟨a, d, b, rfl, h1, h2⟩
      · exact .inl fun e he => by
          rcases List.mem_cons.1 he with rfl | he
          · exact hc
          · exact h e he
      · exact .inr ⟨c :: a, d, b, rfl, fun e he => by
          rcases List.mem_cons.1 he with rfl | he
          · exact hc
          · exact h1 e he, h2⟩
    · exact .inr ⟨[], c, l, rfl, (fun e he => absurd he (by simp)), hc⟩
theorem cutL_back (l f : List UInt8) (h : ∀ c ∈ f, c.toNat ≤ 32) : cutR (cutL (l ++ f)) = cutR (cutL l) := by
  rcases cutL_cases l with hl | ⟨a, c, b, rfl, h1, h2⟩
  · rw [cutL_front l f hl, cutL_all f h, cutL_all l hl]
  · rw [List.append_assoc, cutL_front a _ h1, cutL_front a _ h1, List.cons_append, cutL_no h2, cutL_no h2, ← List.cons_append, cutR_back f _ h]
/-- What stands around, may stand around. -/
theorem strip_around (f l g : List UInt8) (hf : ∀ c ∈ f, c.toNat ≤ 32) (hg : ∀ c ∈ g, c.toNat ≤ 32) : strip (f ++ l ++ g) = strip l := by
  unfold strip
  rw [cutL_back _ g hg, cutL_front f l hf]

/-! ### Scheme -/
def markS (c : UInt8) : Bool := decide (c.toNat = 43 ∨ c.toNat = 45 ∨ c.toNat = 46)
def mayS (c : UInt8) : Bool := letterN c.toNat || digitN c.toNat || markS c
/-- The address has been stripped. -/
def schemeOf (l : List UInt8) : Option (List UInt8) :=
  match cut l [58] with
  | (n, _, m) => if m = true ∧ n ≠ [] ∧ letterN (U8.B n 0) = true ∧ n.all mayS = true then some (lowL n) else none
def scheme (l : List UInt8) : Option (List UInt8) := schemeOf (strip l)

/-! ### Escape -/
def fine : List Nat := [45, 95, 46, 43, 33, 42, 39, 40, 41, 44, 37, 35, 64, 63, 61, 59, 58, 47, 38, 36, 126]
def mayE (c : UInt8) : Bool := letterN c.toNat || digitN c.toNat || fine.contains c.toNat
def hexC (n : Nat) : UInt8 := UInt8.ofNat (if n < 10 then 48 + n else 55 + n)
def escB (c : UInt8) : List UInt8 := if mayE c = true then [c] else [37, hexC (c.toNat / 16), hexC (c.toNat % 16)]
def esc (l : List UInt8) : List UInt8 := l.flatMap escB
theorem esc_nil : esc [] = [] := rfl
theorem esc_cons (c : UInt8) (l : List UInt8) : esc (c :: l) = escB c ++ esc l := by simp [esc]
theorem esc_append (a b : List UInt8) : esc (a ++ b) = esc a ++ esc b := by simp [esc]
theorem escB_le (c : UInt8) : (escB c).length ≤ 3 := by unfold escB; split <;> simp
theorem esc_le : ∀ l : List UInt8, (esc l).length ≤ 3 * l.length
  | [] => Nat.le_refl _
  | c :: l => by
    have := escB_le c; have := esc_le l
    rw [esc_cons, List.length_append, List.length_cons]; omega
theorem mayE_hex : ∀ n : Fin 16, mayE (hexC n.val) = true := by decide +kernel
theorem escB_all (c : UInt8) : ∀ d ∈ escB c, mayE d = true := by
  unfold escB
  split
  · intro d hd
    rw [List.mem_singleton] at hd
    rwa [hd]
  · intro d hd
    have h := c.toNat_lt
    simp only [List.mem_cons, List.not_mem_nil, or_false] at hd
    rcases hd with rfl | rfl | rfl
    · decide +kernel
    · exact mayE_hex ⟨c.toNat / 16, by omega⟩
    · exact mayE_hex ⟨c.toNat % 16, by omega⟩
theorem esc_all (l : List UInt8) : ∀ d ∈ esc l, mayE d = true := by
  intro d hd
  obtain ⟨c, _, h⟩ := List.mem_flatMap.1 hd
  exact escB_all c d h
theorem esc_same : ∀ l : List UInt8, (∀ d ∈ l, mayE d = true) → esc l = l
  | [], _ => rfl
  | c :: l, h => by
    rw [esc_cons, esc_same l fun d hd => h d (List.mem_cons_of_mem _ hd), escB, if_pos (h c (List.mem_cons_self ..))]
    rfl
/-- Escaped twice is escaped once. -/
theorem esc_esc (l : List UInt8) : esc (esc l) = esc l := esc_same _ (esc_all l)

/-! ### Safe -/
def safe (l : List UInt8) (ss : List (List UInt8)) : Bool :=
  match scheme l with
  | none => true
  | some x => ss.contains x
end Go.Proofs.YtpheaepifjcmiaaDoor.Url
