/- Plain Lean: which schemes a policy may have. Nothing of a program stands here. -/
import Derived.Test.YtpheaepifjcmiaaDoorUrlCut
import Derived.Test.YtpheaepifjcmiaaDoorRule
namespace Go.Proofs.YtpheaepifjcmiaaDoor.Rule
open Go.Lib
set_option maxRecDepth 100000
set_option linter.unusedVariables false

def smallB (c : UInt8) : Bool := decide (97 ≤ c.toNat ∧ c.toNat ≤ 122)
def restB (c : UInt8) : Bool := digitN c.toNat || Url.markS c
def formB (i : Nat) (c : UInt8) : Bool := smallB c || (!(i == 0) && restB c)
theorem byte_all {p : UInt8 → Bool} (h : ∀ n : Fin 256, p (UInt8.ofNat n.val) = true) (c : UInt8) : p c = true := by
  have := h ⟨c.toNat, c.toNat_lt⟩
  simpa using this
theorem low_small (c : UInt8) (h : letterN c.toNat = true) : smallB (lowC c) = true := by
  have := byte_all (p := fun c => !letterN c.toNat || smallB (lowC c)) (by decide +kernel) c
  rw [h] at this
  exact this
theorem low_form (c : UInt8) (h : Url.mayS c = true) : smallB (lowC c) = true ∨ restB (lowC c) = true := by
  have := byte_all (p := fun c => !Url.mayS c || (smallB (lowC c) || restB (lowC c))) (by decide +kernel) c
  rw [h] at this
  exact Bool.or_eq_true _ _ ▸ this
theorem form_byte (c : UInt8) (h : smallB c = true ∨ restB c = true) : Url.mayS c = true ∧ lowC c = c ∧ 32 < c.toNat ∧ c ≠ 58 ∧ Url.keepB c = true := by
  have := byte_all (p := fun c => !(smallB c || restB c) || (Url.mayS c && (lowC c == c) && decide (32 < c.toNat) && !(c == 58) && Url.keepB c)) (by decide +kernel) c
  rw [Bool.or_eq_true _ _ |>.mpr h] at this
  simp only [Bool.not_true, Bool.false_or, Bool.and_eq_true, beq_iff_eq, decide_eq_true_eq, Bool.not_eq_true', beq_eq_false_iff_ne, ne_eq] at this
  exact ⟨this.1.1.1.1, this.1.1.1.2, this.1.1.2, this.1.2, this.2⟩
theorem small_letter (c : UInt8) (h : smallB c = true) : letterN c.toNat = true := by
  have := byte_all (p := fun c => !smallB c || letterN c.toNat) (by decide +kernel) c
  rw [h] at this
  exact this
theorem form_or {i : Nat} {c : UInt8} (h : formB i c = true) : smallB c = true ∨ restB c = true := by
  unfold formB at h
  rw [Bool.or_eq_true, Bool.and_eq_true] at h
  exact h.imp id fun x => x.2
theorem form_zero {c : UInt8} (h : formB 0 c = true) : smallB c = true := by
  unfold formB at h
  simpa using h
theorem scheme_form {l m : List UInt8} (h : Url.scheme m = some l) : l ≠ [] ∧ ∀ i c, l[i]? = some c → formB i c = true := by
  unfold Url.scheme Url.schemeOf at h
  split at h
  rename_i n q r hc
  split at h
  · rename_i hh
    obtain ⟨_, hn, hf, ha⟩ := hh
    have he : lowL n = l := Option.some.inj h
    subst he
    refine ⟨fun e => hn (List.map_eq_nil_iff.1 e), fun i c hi => ?_⟩
    unfold lowL at hi
    rw [List.getElem?_map, Option.map_eq_some_iff] at hi
    obtain ⟨d, hd, rfl⟩ := hi
    have hm := List.all_eq_true.1 ha d (List.mem_of_getElem? hd)
    unfold formB
    rw [Bool.or_eq_true, Bool.and_eq_true]
    cases i with
    | zero =>
      left
      rw [U8.B_eq hd] at hf
      exact low_small d hf
    | succ j => exact (low_form d hm).imp id fun x => ⟨rfl, x⟩
  · cases h
theorem strip_plain {l : List UInt8} (h : ∀ c ∈ l, 32 < c.toNat ∧ Url.keepB c = true) : Url.strip (l ++ [58]) = l ++ [58] := by
  unfold Url.strip
  have h1 : Url.cutL (l ++ [58]) = l ++ [58] := by
    cases l with
    | nil => exact Url.cutL_no (by decide)
    | cons a t => exact Url.cutL_no (by have := (h a (List.mem_cons_self ..)).1; omega)
  rw [h1, Url.cutR_no (by decide), List.filter_append]
  rw [List.filter_eq_self.2 fun c hc => (h c hc).2]
  rfl
theorem scheme_back {l : List UInt8} (h0 : l ≠ []) (h : ∀ i c, l[i]? = some c → formB i c = true) : Url.scheme (l ++ [58]) = some l := by
  have hb : ∀ c ∈ l, Url.mayS c = true ∧ lowC c = c ∧ 32 < c.toNat ∧ c ≠ 58 ∧ Url.keepB c = true := fun c hc => by
    obtain ⟨i, hi⟩ := List.getElem?_of_mem hc
    exact form_byte c (form_or (h i c hi))
  have hs := strip_plain (l := l) fun c hc => ⟨(hb c hc).2.2.1, (hb c hc).2.2.2.2⟩
  unfold Url.scheme
  rw [hs]
  have hlow : lowL l = l := by
    unfold lowL
    conv => rhs; rw [← List.map_id l]
    exact List.map_congr_left fun c hc => (hb c hc).2.1
  have hcut : cut (l ++ [58]) [58] = (l, [], true) := by
    rcases Url.cut_one 58 (l ++ [58]) with ⟨p, q, h1, h2, h3⟩ | ⟨_, h2⟩
    · have hlen : p.length = l.length := by
        rcases Nat.lt_trichotomy p.length l.length with hlt | he | hgt
        · have e1 : (l ++ [58])[p.length]? = some 58 := by rw [h2, List.getElem?_append_right (Nat.le_refl _)]; simp
          rw [List.getElem?_append_left hlt] at e1
          exact absurd rfl ((hb 58 (List.mem_of_getElem? e1)).2.2.2.1)
        · exact he
        · have e1 : (l ++ [58])[l.length]? = some 58 := by rw [List.getElem?_append_right (Nat.le_refl _)]; simp
          rw [h2, List.getElem?_append_left hgt] at e1
          exact absurd rfl (h3 58 (List.mem_of_getElem? e1))
      obtain ⟨e1, e2⟩ := List.append_inj h2 hlen.symm
      rw [h1, ← e1]
      injection e2 with _ e3
      rw [← e3]
    · exact absurd rfl (h2 58 (by simp))
  have hf : letterN (U8.B l 0) = true := by
    cases l with
    | nil => exact absurd rfl h0
    | cons a t => exact small_letter a (form_zero (h 0 a rfl))
  rw [Url.schemeOf_yes hcut h0 hf (List.all_eq_true.2 fun c hc => (hb c hc).1), hlow]
theorem lead_bad {l : List UInt8} {i : Nat} {c : UInt8} (hi : l[i]? = some c) (h : formB i c = false) : leadB l = false := by
  cases hl : leadB l with
  | false => rfl
  | true =>
    unfold leadB at hl
    split at hl
    · cases hl
    · split at hl
      · cases hl
      · have := (scheme_form (beq_iff_eq.1 hl)).2 i c hi
        rw [h] at this
        cases this
theorem lead_nil : leadB [] = false := by
  cases hl : leadB [] with
  | false => rfl
  | true =>
    unfold leadB at hl
    rw [if_neg (by decide), if_neg (by decide)] at hl
    exact absurd rfl (scheme_form (beq_iff_eq.1 hl)).1
theorem lead_good {l : List UInt8} (h0 : l ≠ []) (h1 : l ≠ js) (h2 : l ≠ vb) (h3 : l ≠ da) (h4 : l.length ≤ 64) (h : ∀ i c, l[i]? = some c → formB i c = true) : leadB l = true := by
  unfold leadB
  rw [if_neg (fun h => h.elim h1 (fun h => h.elim h2 h3)), if_neg (by omega), scheme_back h0 h]
  exact beq_iff_eq.2 rfl
end Go.Proofs.YtpheaepifjcmiaaDoor.Rule
