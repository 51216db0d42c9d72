/- Plain Lean: kinds of characters, folding and small letters. Nothing of a program stands here. -/
import Derived.Test.YtlikpmmkfjghbaaDoorRunes
namespace Go.Proofs.YtlikpmmkfjghbaaDoor
open Go.Lib U8
set_option maxRecDepth 100000
set_option linter.unusedVariables false

/-! ### bytes -/
def lowC (c : UInt8) : UInt8 := if 65 ≤ c.toNat ∧ c.toNat ≤ 90 then c + 32 else c
theorem lowC_num (c : UInt8) : (lowC c).toNat = if 65 ≤ c.toNat ∧ c.toNat ≤ 90 then c.toNat + 32 else c.toNat := by
  unfold lowC
  split
  · rw [UInt8.toNat_add]
    have : (32 : UInt8).toNat = 32 := rfl
    omega
  · rfl
theorem lowC_low (c : UInt8) : lowC (lowC c) = lowC c := by
  apply UInt8.toNat_inj.1
  rw [lowC_num (lowC c), lowC_num c]
  repeat' split
  all_goals omega
def lowL (l : List UInt8) : List UInt8 := l.map lowC
theorem lowL_len (l : List UInt8) : (lowL l).length = l.length := by simp [lowL]
theorem lowL_low (l : List UInt8) : lowL (lowL l) = lowL l := by
  unfold lowL
  rw [List.map_map]
  exact List.map_congr_left fun c _ => lowC_low c

/-! ### folding -/
/-- The numbers that a character is folded to. -/
def foldC (r : Nat) : List Nat :=
  if r = 223 ∨ r = 7838 then [115, 115]
  else if (65 ≤ r ∧ r ≤ 90) ∨ (192 ≤ r ∧ r ≤ 222 ∧ r ≠ 215) ∨ (913 ≤ r ∧ r ≤ 937 ∧ r ≠ 930) ∨ (1040 ≤ r ∧ r ≤ 1071) then [r + 32]
  else if 1024 ≤ r ∧ r ≤ 1039 then [r + 80]
  else if r = 962 then [963]
  else if ((256 ≤ r ∧ r ≤ 311) ∨ (330 ≤ r ∧ r ≤ 375) ∨ (7680 ≤ r ∧ r ≤ 7829)) ∧ r % 2 = 0 then [r + 1]
  else if ((313 ≤ r ∧ r ≤ 328) ∨ (377 ≤ r ∧ r ≤ 382)) ∧ r % 2 = 1 then [r + 1]
  else [r]
theorem foldC_len (r : Nat) : 1 ≤ (foldC r).length ∧ (foldC r).length ≤ 2 := by
  unfold foldC
  repeat' split
  all_goals simp
theorem foldC_self {r : Nat} (h1 : ¬ (r = 223 ∨ r = 7838)) (h2 : ¬ ((65 ≤ r ∧ r ≤ 90) ∨ (192 ≤ r ∧ r ≤ 222 ∧ r ≠ 215) ∨ (913 ≤ r ∧ r ≤ 937 ∧ r ≠ 930) ∨ (1040 ≤ r ∧ r ≤ 1071)))
    (h3 : ¬ (1024 ≤ r ∧ r ≤ 1039)) (h4 : ¬ r = 962) (h5 : ¬ (((256 ≤ r ∧ r ≤ 311) ∨ (330 ≤ r ∧ r ≤ 375) ∨ (7680 ≤ r ∧ r ≤ 7829)) ∧ r % 2 = 0))
    (h6 : ¬ (((313 ≤ r ∧ r ≤ 328) ∨ (377 ≤ r ∧ r ≤ 382)) ∧ r % 2 = 1)) : foldC r = [r] := by
  unfold foldC
  rw [if_neg h1, if_neg h2, if_neg h3, if_neg h4, if_neg h5, if_neg h6]
theorem foldC_all {P : Nat → Prop} {r : Nat} (h : TxtC r) (hp : ∀ d, TxtC d → foldC d = [d] → P d) : ∀ d ∈ foldC r, P d := by
  unfold TxtC OkC at h
  intro d hd
  unfold foldC at hd
  split at hd
  · obtain rfl : d = 115 := by simpa using hd
    exact hp _ ⟨by decide, .inl (by decide)⟩ rfl
  split at hd
  · obtain rfl : d = r + 32 := by simpa using hd
    exact hp _ ⟨by omega, by unfold OkC; omega⟩ (foldC_self (by omega) (by omega) (by omega) (by omega) (by omega) (by omega))
  split at hd
  · obtain rfl : d = r + 80 := by simpa using hd
    exact hp _ ⟨by omega, by unfold OkC; omega⟩ (foldC_self (by omega) (by omega) (by omega) (by omega) (by omega) (by omega))
  split at hd
  · obtain rfl : d = 963 := by simpa using hd
    exact hp _ ⟨by decide, .inl (by decide)⟩ rfl
  split at hd
  · obtain rfl : d = r + 1 := by simpa using hd
    exact hp _ ⟨by omega, by unfold OkC; omega⟩ (foldC_self (by omega) (by omega) (by omega) (by omega) (by omega) (by omega))
  split at hd
  · obtain rfl : d = r + 1 := by simpa using hd
    exact hp _ ⟨by omega, by unfold OkC; omega⟩ (foldC_self (by omega) (by omega) (by omega) (by omega) (by omega) (by omega))
  · rename_i h1 h2 h3 h4 h5 h6
    obtain rfl : d = r := by simpa using hd
    exact hp _ h (foldC_self h1 h2 h3 h4 h5 h6)
def foldCs (cs : List Nat) : List Nat := cs.flatMap foldC
theorem foldCs_txt (cs : List Nat) (h : ∀ c ∈ cs, TxtC c) : ∀ d ∈ foldCs cs, TxtC d := by
  intro d hd
  obtain ⟨c, hc, hd⟩ := List.mem_flatMap.1 hd
  exact foldC_all (P := TxtC) (h c hc) (fun _ h _ => h) d hd
theorem flat_one {f : Nat → List Nat} : ∀ (cs : List Nat), (∀ c ∈ cs, f c = [c]) → cs.flatMap f = cs
  | [], _ => rfl
  | c :: cs, h => by rw [List.flatMap_cons, h c (by simp), flat_one cs (fun c hc => h c (by simp [hc]))]; rfl
/-- Folding twice is folding once. -/
theorem foldCs_fold (cs : List Nat) (h : ∀ c ∈ cs, TxtC c) : foldCs (foldCs cs) = foldCs cs := by
  apply flat_one
  intro d hd
  obtain ⟨c, hc, hd⟩ := List.mem_flatMap.1 hd
  exact foldC_all (P := fun d => foldC d = [d]) (h c hc) (fun _ _ h => h) d hd
/-- A text, folded. -/
def foldL (l : List UInt8) : List UInt8 := encs (foldCs (runes l))
theorem foldL_right (l : List UInt8) (h : right l = true) : right (foldL l) = true :=
  right_enc _ (foldCs_txt _ (enc_runes l h).2)
theorem foldL_runes (l : List UInt8) (h : right l = true) : runes (foldL l) = foldCs (runes l) :=
  runes_enc _ fun c hc => (foldCs_txt _ (enc_runes l h).2 c hc).2
theorem foldL_fold (l : List UInt8) (h : right l = true) : foldL (foldL l) = foldL l := by
  unfold foldL
  have h1 := enc_runes l h
  rw [runes_enc _ fun c hc => (foldCs_txt _ h1.2 c hc).2, foldCs_fold _ h1.2]
theorem foldL_append (l r : List UInt8) (h : right l = true) : foldL (l ++ r) = foldL l ++ foldL r := by
  unfold foldL foldCs
  rw [runes_append l r h, List.flatMap_append, encs_append]

/-! ### around a place -/
/-- The character ahead of the end; a newline's number: there is none. -/
def lastC (l : List UInt8) : Nat := (runes l).getLast?.getD 10
def firstC (l : List UInt8) : Nat := (runes l).head?.getD 10
theorem firstC_dec (l : List UInt8) (h : l ≠ []) : firstC l = (dec l).1 := by
  unfold firstC
  rw [runes_step l h]
  rfl
theorem runes_ne (l : List UInt8) (h : l ≠ []) : runes l ≠ [] := by rw [runes_step l h]; simp
/-- Of a text, and one whole character behind it, that is the last. -/
theorem lastC_append (l : List UInt8) (c : Nat) (h : right l = true) (hc : OkC c) : lastC (l ++ encN c) = c := by
  unfold lastC
  have h1 : runes (encN c) = [c] := by
    have := runes_enc [c] (fun d hd => by rw [List.mem_singleton.1 hd]; exact hc)
    rwa [encs_cons, encs_nil, List.append_nil] at this
  rw [runes_append l _ h, h1, List.getLast?_append]
  simp
/-- A text that is not empty ends with a character, and what stands ahead of it is a text. -/
theorem right_last (l : List UInt8) (h : right l = true) (hne : l ≠ []) : ∃ m c, TxtC c ∧ right m = true ∧ l = m ++ encN c ∧ lastC l = c := by
  obtain ⟨e1, e2⟩ := enc_runes l h
  have hr := runes_ne l hne
  obtain ⟨cs, c, hcs⟩ : ∃ cs c, runes l = cs ++ [c] := ⟨(runes l).dropLast, (runes l).getLast hr, (List.dropLast_concat_getLast hr).symm⟩
  have t : TxtC c := e2 c (by rw [hcs]; simp)
  have ts : ∀ d ∈ cs, TxtC d := fun d hd => e2 d (by rw [hcs]; simp [hd])
  refine ⟨encs cs, c, t, right_enc cs ts, ?_, ?_⟩
  · rw [← e1, hcs, encs_append, encs_cons, encs_nil, List.append_nil]
  · unfold lastC; rw [hcs]; simp
end Go.Proofs.YtlikpmmkfjghbaaDoor
