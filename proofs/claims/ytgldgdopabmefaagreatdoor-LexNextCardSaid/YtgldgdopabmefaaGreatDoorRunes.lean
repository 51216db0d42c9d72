/- Plain Lean: a character's own bytes are a text. Nothing of a program stands here. Plain Lean: a text as its characters' numbers, and back. Nothing of a program stands here. -/
import Derived.Test.YtgldgdopabmefaaGreatDoorRefHex
import Derived.Test.YtgldgdopabmefaaGreatDoorGnd
import Derived.Laws.Cover4
import Derived.Laws.IdiomStrings
namespace Go.Proofs.YtgldgdopabmefaaGreatDoor
open Go.Lib

def encL (r : Int) : List UInt8 := (Utf8.encode r).data.toList
theorem runes_one (r : Int) : runesBytes [r] = Utf8.encode r := by
  unfold runesBytes
  simp only [List.foldl_cons, List.foldl_nil]
  apply ByteArray.ext
  rw [ByteArray.data_append]
  simp [ByteArray.empty, ByteArray.emptyWithCapacity]
  rfl

/-- The number that is written: U+FFFD's for what is none. -/
def codeOf (r : Int) : Nat := if Utf8.valid r then r.toNat else 65533
theorem codeOf_ok (r : Int) : codeOf r < 55296 ∨ (57344 ≤ codeOf r ∧ codeOf r ≤ 1114111) := by
  unfold codeOf
  split
  · rename_i h
    simp [Utf8.valid] at h
    omega
  · omega
theorem encL_eq (r : Int) : encL r = if codeOf r < 128 then [UInt8.ofNat (codeOf r)]
    else if codeOf r < 2048 then [UInt8.ofNat (192 + codeOf r / 64), UInt8.ofNat (128 + codeOf r % 64)]
    else if codeOf r < 65536 then [UInt8.ofNat (224 + codeOf r / 4096), UInt8.ofNat (128 + codeOf r / 64 % 64), UInt8.ofNat (128 + codeOf r % 64)]
    else [UInt8.ofNat (240 + codeOf r / 262144), UInt8.ofNat (128 + codeOf r / 4096 % 64), UInt8.ofNat (128 + codeOf r / 64 % 64), UInt8.ofNat (128 + codeOf r % 64)] := by
  unfold encL Utf8.encode codeOf Utf8.runeError
  simp only
  repeat' split
  all_goals rfl
theorem ofNat_small (n : Nat) (h : n < 256) : (UInt8.ofNat n).toNat = n := by rw [UInt8.toNat_ofNat']; omega

/-- All of it is one whole character. -/
theorem right_char (l : List UInt8) (h : l ≠ []) (hf : U8.front l = (l.length, true)) (h0 : U8.B l 0 ≠ 0) : U8.right l = true := by
  rw [U8.right_step l h, hf]
  simp [h0, U8.right_nil]
theorem encL_right (r : Int) (h0 : codeOf r ≠ 0) : U8.right (encL r) = true := by
  have hok := codeOf_ok r
  rw [encL_eq]
  generalize codeOf r = c at *
  split
  · rename_i h
    apply right_char _ (by simp)
    · unfold U8.front U8.frontN
      have e0 : U8.B [UInt8.ofNat c] 0 = c := ofNat_small c (by omega)
      rw [e0, if_pos h]; rfl
    · show (UInt8.ofNat c).toNat ≠ 0
      rw [ofNat_small c (by omega)]; exact h0
  split
  · rename_i h1 h2
    have e0 : U8.B [UInt8.ofNat (192 + c / 64), UInt8.ofNat (128 + c % 64)] 0 = 192 + c / 64 := ofNat_small _ (by omega)
    have e1 : U8.B [UInt8.ofNat (192 + c / 64), UInt8.ofNat (128 + c % 64)] 1 = 128 + c % 64 := ofNat_small _ (by omega)
    apply right_char _ (by simp)
    · unfold U8.front U8.frontN
      rw [e0, e1, if_neg (by omega), if_neg (by omega), if_neg (fun h => h ⟨by simp, (U8.sec_iff _ _).2 (by omega)⟩), if_pos (by omega)]; rfl
    · rw [e0]; omega
  split
  · rename_i h1 h2 h3
    have e0 : U8.B [UInt8.ofNat (224 + c / 4096), UInt8.ofNat (128 + c / 64 % 64), UInt8.ofNat (128 + c % 64)] 0 = 224 + c / 4096 := ofNat_small _ (by omega)
    have e1 : U8.B [UInt8.ofNat (224 + c / 4096), UInt8.ofNat (128 + c / 64 % 64), UInt8.ofNat (128 + c % 64)] 1 = 128 + c / 64 % 64 := ofNat_small _ (by omega)
    have e2 : U8.B [UInt8.ofNat (224 + c / 4096), UInt8.ofNat (128 + c / 64 % 64), UInt8.ofNat (128 + c % 64)] 2 = 128 + c % 64 := ofNat_small _ (by omega)
    apply right_char _ (by simp)
    · unfold U8.front U8.frontN
      rw [e0, e1, e2, if_neg (by omega), if_neg (by omega), if_neg (fun h => h ⟨by simp, (U8.sec_iff _ _).2 (by omega)⟩), if_neg (by omega), if_neg (fun h => h ⟨by simp, U8.cont_iff.2 (by omega)⟩), if_pos (by omega)]; rfl
    · rw [e0]; omega
  · rename_i h1 h2 h3
    have e0 : U8.B [UInt8.ofNat (240 + c / 262144), UInt8.ofNat (128 + c / 4096 % 64), UInt8.ofNat (128 + c / 64 % 64), UInt8.ofNat (128 + c % 64)] 0 = 240 + c / 262144 := ofNat_small _ (by omega)
    have e1 : U8.B [UInt8.ofNat (240 + c / 262144), UInt8.ofNat (128 + c / 4096 % 64), UInt8.ofNat (128 + c / 64 % 64), UInt8.ofNat (128 + c % 64)] 1 = 128 + c / 4096 % 64 := ofNat_small _ (by omega)
    have e2 : U8.B [UInt8.ofNat (240 + c / 262144), UInt8.ofNat (128 + c / 4096 % 64), UInt8.ofNat (128 + c / 64 % 64), UInt8.ofNat (128 + c % 64)] 2 = 128 + c / 64 % 64 := ofNat_small _ (by omega)
    have e3 : U8.B [UInt8.ofNat (240 + c / 262144), UInt8.ofNat (128 + c / 4096 % 64), UInt8.ofNat (128 + c / 64 % 64), UInt8.ofNat (128 + c % 64)] 3 = 128 + c % 64 := ofNat_small _ (by omega)
    apply right_char _ (by simp)
    · unfold U8.front U8.frontN
      rw [e0, e1, e2, e3, if_neg (by omega), if_neg (by omega), if_neg (fun h => h ⟨by simp, (U8.sec_iff _ _).2 (by omega)⟩), if_neg (by omega), if_neg (fun h => h ⟨by simp, U8.cont_iff.2 (by omega)⟩), if_neg (by omega), if_neg (fun h => h ⟨by simp, U8.cont_iff.2 (by omega)⟩)]; rfl
    · rw [e0]; omega
theorem encL_text (r : Int) (h0 : codeOf r ≠ 0) (hf : codeOf r ≠ 65279) : U8.text (encL r) = encL r := by
  have hok := codeOf_ok r
  have ht : trimPrefix (encL r) [239, 187, 191] = encL r := by
    apply trim_no
    rw [encL_eq]
    generalize codeOf r = c at *
    split
    · simp
    split
    · simp
    split
    · rename_i h1 h2 h3
      rintro ⟨_, b0, b1, b2⟩
      have e0 : U8.B [UInt8.ofNat (224 + c / 4096), UInt8.ofNat (128 + c / 64 % 64), UInt8.ofNat (128 + c % 64)] 0 = 224 + c / 4096 := ofNat_small _ (by omega)
      have e1 : U8.B [UInt8.ofNat (224 + c / 4096), UInt8.ofNat (128 + c / 64 % 64), UInt8.ofNat (128 + c % 64)] 1 = 128 + c / 64 % 64 := ofNat_small _ (by omega)
      have e2 : U8.B [UInt8.ofNat (224 + c / 4096), UInt8.ofNat (128 + c / 64 % 64), UInt8.ofNat (128 + c % 64)] 2 = 128 + c % 64 := ofNat_small _ (by omega)
      omega
    · rename_i h1 h2 h3
      rintro ⟨_, b0, _, _⟩
      have e0 : U8.B [UInt8.ofNat (240 + c / 262144), UInt8.ofNat (128 + c / 4096 % 64), UInt8.ofNat (128 + c / 64 % 64), UInt8.ofNat (128 + c % 64)] 0 = 240 + c / 262144 := ofNat_small _ (by omega)
      omega
  unfold U8.text
  rw [ht]
  exact U8.plain_of_right _ (encL_right r h0)
theorem codeOf_zero {r : Int} (h : r ≠ 0) : codeOf r ≠ 0 := by
  unfold codeOf
  split
  · rename_i hv
    simp [Utf8.valid] at hv
    omega
  · omega
theorem codeOf_bom {r : Int} (h : r ≠ 65279) : codeOf r ≠ 65279 := by
  unfold codeOf
  split
  · rename_i hv
    simp [Utf8.valid] at hv
    omega
  · omega
end Go.Proofs.YtgldgdopabmefaaGreatDoor
namespace Go.Proofs.YtgldgdopabmefaaGreatDoor
open Go.Lib U8
set_option maxRecDepth 100000
set_option linter.unusedVariables false

/-- The numbers that a byte string's characters have, as Go's range tells them. -/
def runesF : Nat → List UInt8 → List Nat
  | 0, _ => []
  | f + 1, l => if l = [] then [] else (dec l).1 :: runesF f (l.drop (dec l).2)
def runes (l : List UInt8) : List Nat := runesF l.length l
theorem runesF_fuel : ∀ (f g : Nat) (l : List UInt8), l.length ≤ f → l.length ≤ g → runesF f l = runesF g l
  | 0, g, l, hf, _ => by
    obtain rfl : l = [] := List.length_eq_zero_iff.1 (by omega)
    cases g <;> simp [runesF]
  | f + 1, 0, l, _, hg => by
    obtain rfl : l = [] := List.length_eq_zero_iff.1 (by omega)
    simp [runesF]
  | f + 1, g + 1, l, hf, hg => by
    by_cases h : l = []
    · simp [runesF, h]
    · have := dec_width l h
      simp only [runesF, if_neg h]
      rw [runesF_fuel f g (l.drop (dec l).2) (by simp; omega) (by simp; omega)]
theorem runes_nil : runes [] = [] := rfl
theorem runes_step (l : List UInt8) (h : l ≠ []) : runes l = (dec l).1 :: runes (l.drop (dec l).2) := by
  have hl := dec_width l h
  have h1 : runes l = runesF (l.length - 1 + 1) l := runesF_fuel _ _ _ (by omega) (by omega)
  rw [h1]
  simp only [runesF, if_neg h]
  rw [runesF_fuel (l.length - 1) (l.drop (dec l).2).length _ (by simp; omega) (by omega)]
  rfl
/-- Induction by what is decoded. -/
theorem decs {P : List UInt8 → Prop} (h0 : P []) (h1 : ∀ l, l ≠ [] → P (l.drop (dec l).2) → P l) : ∀ l, P l := by
  have key : ∀ n (l : List UInt8), l.length ≤ n → P l := by
    intro n
    induction n with
    | zero => intro l hl; obtain rfl : l = [] := List.length_eq_zero_iff.1 (by omega); exact h0
    | succ n ih =>
      intro l hl
      by_cases h : l = []
      · subst h; exact h0
      · exact h1 l h (ih _ (by have := dec_width l h; simp; omega))
  exact fun l => key l.length l (Nat.le_refl _)
theorem runes_length : ∀ l, (runes l).length ≤ l.length :=
  decs (by simp [runes_nil]) fun l h ih => by
    have := dec_width l h
    rw [runes_step l h]
    simp at ih ⊢
    omega

/-! ### a number's bytes -/
def encN (c : Nat) : List UInt8 :=
  if c < 128 then [UInt8.ofNat c]
  else if c < 2048 then [UInt8.ofNat (192 + c / 64), UInt8.ofNat (128 + c % 64)]
  else if c < 65536 then [UInt8.ofNat (224 + c / 4096), UInt8.ofNat (128 + c / 64 % 64), UInt8.ofNat (128 + c % 64)]
  else [UInt8.ofNat (240 + c / 262144), UInt8.ofNat (128 + c / 4096 % 64), UInt8.ofNat (128 + c / 64 % 64), UInt8.ofNat (128 + c % 64)]
def OkC (c : Nat) : Prop := c < 55296 ∨ (57344 ≤ c ∧ c ≤ 1114111)
theorem codeOf_of {c : Nat} (h : OkC c) : codeOf (c : Int) = c := by
  unfold codeOf
  rw [if_pos]
  · rfl
  · unfold OkC at h
    simp [Utf8.valid]
    omega
theorem encL_codeOf (r : Int) : encL r = encN (codeOf r) := encL_eq r
theorem encL_ok {c : Nat} (h : OkC c) : encL (c : Int) = encN c := by rw [encL_codeOf, codeOf_of h]
theorem encodeRune_ok {c : Nat} (h : OkC c) : encodeRune (c : Int) = encN c := by
  unfold OkC at h
  unfold encodeRune encN
  by_cases h1 : c < 128
  · rw [encodeRuneZ_one (by omega) (by omega), if_pos h1]; rfl
  by_cases h2 : c < 2048
  · rw [encodeRuneZ_two (by omega) (by omega), if_neg h1, if_pos h2]
    simp only [List.map_cons, List.map_nil]
    have g0 : (192 + (c : Int) / 64).toNat = 192 + c / 64 := by omega
    have g1 : (128 + (c : Int) % 64).toNat = 128 + c % 64 := by omega
    rw [g0, g1]
  by_cases h3 : c < 65536
  · rw [encodeRuneZ_three (by omega), if_neg h1, if_neg h2, if_pos h3]
    simp only [List.map_cons, List.map_nil]
    have g0 : (224 + (c : Int) / 4096).toNat = 224 + c / 4096 := by omega
    have g1 : (128 + (c : Int) / 64 % 64).toNat = 128 + c / 64 % 64 := by omega
    have g2 : (128 + (c : Int) % 64).toNat = 128 + c % 64 := by omega
    rw [g0, g1, g2]
  · rw [encodeRuneZ_four (by omega) (by omega), if_neg h1, if_neg h2, if_neg h3]
    simp only [List.map_cons, List.map_nil]
    have g0 : (240 + (c : Int) / 262144).toNat = 240 + c / 262144 := by omega
    have g1 : (128 + (c : Int) / 4096 % 64).toNat = 128 + c / 4096 % 64 := by omega
    have g2 : (128 + (c : Int) / 64 % 64).toNat = 128 + c / 64 % 64 := by omega
    have g3 : (128 + (c : Int) % 64).toNat = 128 + c % 64 := by omega
    rw [g0, g1, g2, g3]
theorem encN_ne (c : Nat) : encN c ≠ [] := by
  unfold encN
  split
  · simp
  split
  · simp
  split <;> simp
theorem encN_len (c : Nat) : 1 ≤ (encN c).length ∧ (encN c).length ≤ 4 := by
  unfold encN
  split
  · simp
  split
  · simp
  split <;> simp

/-- A number's bytes are one whole character, whatever stands behind them, and decoded they are the number. -/
theorem dec_enc {c : Nat} (h : OkC c) (r : List UInt8) : dec (encN c ++ r) = (c, (encN c).length) ∧ front (encN c ++ r) = ((encN c).length, true) ∧ (B (encN c ++ r) 0 = 0 ↔ c = 0) := by
  unfold OkC at h
  by_cases h1 : c < 128
  · have e : encN c = [UInt8.ofNat c] := by unfold encN; rw [if_pos h1]
    have b0 : B ([UInt8.ofNat c] ++ r) 0 = c := ofNat_small c (by omega)
    rw [e]
    refine ⟨?_, ?_, by rw [b0]⟩
    · unfold dec decodeN; rw [b0, if_pos h1]; rfl
    · unfold front frontN; rw [b0, if_pos h1]; rfl
  by_cases h2 : c < 2048
  · have e : encN c = [UInt8.ofNat (192 + c / 64), UInt8.ofNat (128 + c % 64)] := by unfold encN; rw [if_neg h1, if_pos h2]
    have b0 : B ([UInt8.ofNat (192 + c / 64), UInt8.ofNat (128 + c % 64)] ++ r) 0 = 192 + c / 64 := ofNat_small _ (by omega)
    have b1 : B ([UInt8.ofNat (192 + c / 64), UInt8.ofNat (128 + c % 64)] ++ r) 1 = 128 + c % 64 := ofNat_small _ (by omega)
    rw [e]
    refine ⟨?_, ?_, by rw [b0]; omega⟩
    · unfold dec decodeN
      rw [b0, b1, if_neg (by omega), if_pos ⟨by omega, by simp, by omega⟩, if_pos (by omega)]
      congr 1
      omega
    · unfold front frontN
      rw [b0, b1, if_neg (by omega), if_neg (by omega), if_neg (fun hh => hh ⟨by simp, (sec_iff _ _).2 (by omega)⟩), if_pos (by omega)]; rfl
  by_cases h3 : c < 65536
  · have e : encN c = [UInt8.ofNat (224 + c / 4096), UInt8.ofNat (128 + c / 64 % 64), UInt8.ofNat (128 + c % 64)] := by unfold encN; rw [if_neg h1, if_neg h2, if_pos h3]
    have b0 : B ([UInt8.ofNat (224 + c / 4096), UInt8.ofNat (128 + c / 64 % 64), UInt8.ofNat (128 + c % 64)] ++ r) 0 = 224 + c / 4096 := ofNat_small _ (by omega)
    have b1 : B ([UInt8.ofNat (224 + c / 4096), UInt8.ofNat (128 + c / 64 % 64), UInt8.ofNat (128 + c % 64)] ++ r) 1 = 128 + c / 64 % 64 := ofNat_small _ (by omega)
    have b2 : B ([UInt8.ofNat (224 + c / 4096), UInt8.ofNat (128 + c / 64 % 64), UInt8.ofNat (128 + c % 64)] ++ r) 2 = 128 + c % 64 := ofNat_small _ (by omega)
    have v : (224 + c / 4096) % 16 * 4096 + (128 + c / 64 % 64) % 64 * 64 + (128 + c % 64) % 64 = c := by omega
    rw [e]
    refine ⟨?_, ?_, by rw [b0]; omega⟩
    · unfold dec decodeN
      rw [b0, b1, b2, if_neg (by omega), if_neg (by omega), if_pos ⟨by omega, ⟨by simp, by omega⟩, ⟨by simp, by omega⟩⟩, v, if_pos (by omega)]
      rfl
    · unfold front frontN
      rw [b0, b1, b2, if_neg (by omega), if_neg (by omega), if_neg (fun hh => hh ⟨by simp, (sec_iff _ _).2 (by omega)⟩), if_neg (by omega), if_neg (fun hh => hh ⟨by simp, cont_iff.2 (by omega)⟩), if_pos (by omega)]; rfl
  · have e : encN c = [UInt8.ofNat (240 + c / 262144), UInt8.ofNat (128 + c / 4096 % 64), UInt8.ofNat (128 + c / 64 % 64), UInt8.ofNat (128 + c % 64)] := by unfold encN; rw [if_neg h1, if_neg h2, if_neg h3]
    have b0 : B ([UInt8.ofNat (240 + c / 262144), UInt8.ofNat (128 + c / 4096 % 64), UInt8.ofNat (128 + c / 64 % 64), UInt8.ofNat (128 + c % 64)] ++ r) 0 = 240 + c / 262144 := ofNat_small _ (by omega)
    have b1 : B ([UInt8.ofNat (240 + c / 262144), UInt8.ofNat (128 + c / 4096 % 64), UInt8.ofNat (128 + c / 64 % 64), UInt8.ofNat (128 + c % 64)] ++ r) 1 = 128 + c / 4096 % 64 := ofNat_small _ (by omega)
    have b2 : B ([UInt8.ofNat (240 + c / 262144), UInt8.ofNat (128 + c / 4096 % 64), UInt8.ofNat (128 + c / 64 % 64), UInt8.ofNat (128 + c % 64)] ++ r) 2 = 128 + c / 64 % 64 := ofNat_small _ (by omega)
    have b3 : B ([UInt8.ofNat (240 + c / 262144), UInt8.ofNat (128 + c / 4096 % 64), UInt8.ofNat (128 + c / 64 % 64), UInt8.ofNat (128 + c % 64)] ++ r) 3 = 128 + c % 64 := ofNat_small _ (by omega)
    have v : (240 + c / 262144) % 8 * 262144 + (128 + c / 4096 % 64) % 64 * 4096 + (128 + c / 64 % 64) % 64 * 64 + (128 + c % 64) % 64 = c := by omega
    rw [e]
    refine ⟨?_, ?_, by rw [b0]; omega⟩
    · unfold dec decodeN
      rw [b0, b1, b2, b3, if_neg (by omega), if_neg (by omega), if_neg (by omega), if_pos ⟨by omega, ⟨by simp, by omega⟩, ⟨by simp, by omega⟩, ⟨by simp, by omega⟩⟩, v, if_pos (by omega)]
      rfl
    · unfold front frontN
      rw [b0, b1, b2, b3, if_neg (by omega), if_neg (by omega), if_neg (fun hh => hh ⟨by simp, (sec_iff _ _).2 (by omega)⟩), if_neg (by omega), if_neg (fun hh => hh ⟨by simp, cont_iff.2 (by omega)⟩), if_neg (by omega), if_neg (fun hh => hh ⟨by simp, cont_iff.2 (by omega)⟩)]; rfl

/-! ### texts and their numbers -/
def encs (cs : List Nat) : List UInt8 := cs.flatMap encN
theorem encs_nil : encs [] = [] := rfl
theorem encs_cons (c : Nat) (cs : List Nat) : encs (c :: cs) = encN c ++ encs cs := by simp [encs]
theorem encs_append (a b : List Nat) : encs (a ++ b) = encs a ++ encs b := by simp [encs]
/-- A character's number: one that may be, and not 0. -/
def TxtC (c : Nat) : Prop := c ≠ 0 ∧ OkC c
theorem runes_enc_append : ∀ (cs : List Nat), (∀ c ∈ cs, OkC c) → ∀ r, runes (encs cs ++ r) = cs ++ runes r
  | [], _, r => rfl
  | c :: cs, h, r => by
    have h1 := (dec_enc (h c (by simp)) (encs cs ++ r)).1
    have hne : encN c ++ (encs cs ++ r) ≠ [] := by simp [encN_ne]
    rw [encs_cons, List.append_assoc, runes_step _ hne, h1]
    simp only [List.drop_left, List.cons_append]
    rw [runes_enc_append cs (fun c hc => h c (by simp [hc])) r]
theorem runes_enc (cs : List Nat) (h : ∀ c ∈ cs, OkC c) : runes (encs cs) = cs := by
  have := runes_enc_append cs h []
  simpa [runes_nil] using this
theorem right_enc_append : ∀ (cs : List Nat), (∀ c ∈ cs, TxtC c) → ∀ r, right (encs cs ++ r) = right r
  | [], _, r => rfl
  | c :: cs, h, r => by
    obtain ⟨h1, h2, h3⟩ := dec_enc (h c (by simp)).2 (encs cs ++ r)
    have hne : encN c ++ (encs cs ++ r) ≠ [] := by simp [encN_ne]
    have h0 : B (encN c ++ (encs cs ++ r)) 0 ≠ 0 := fun e => (h c (by simp)).1 (h3.1 e)
    rw [encs_cons, List.append_assoc, right_step _ hne, h2]
    simp only [List.drop_left, decide_eq_true h0, Bool.true_and]
    exact right_enc_append cs (fun c hc => h c (by simp [hc])) r
theorem right_enc (cs : List Nat) (h : ∀ c ∈ cs, TxtC c) : right (encs cs) = true := by
  have := right_enc_append cs h []
  simpa [right_nil] using this
/-- A whole character's number, and its bytes. -/
theorem whole_enc (l : List UInt8) (h : l ≠ []) (hw : (front l).2 = true) (h0 : B l 0 ≠ 0) : TxtC (dec l).1 ∧ encN (dec l).1 = l.take (front l).1 ∧ (dec l).2 = (front l).1 := by
  obtain ⟨r, e1, e2, e3, e4⟩ := dec_whole l h hw
  have hr0 : r ≠ 0 := fun e => h0 (e3.1 e)
  have hok : OkC r := by
    unfold OkC
    apply Classical.byContradiction
    intro hn
    have hb : encodeRune (r : Int) = [239, 191, 189] := by
      unfold encodeRune
      rw [encodeRuneZ_bad (by omega)]; rfl
    rw [hb] at e2
    have hd := congrArg (fun x => dec x) e2
    have hl := front_le l h
    have hft := front_take l h hw
    have hf3 : (front l).1 = 3 := by
      have := congrArg List.length e2
      simp at this
      omega
    have hne : l.take (front l).1 ≠ [] := by rw [← e2]; simp
    have hdt : dec (l.take (front l).1) = dec l := by
      obtain ⟨r', f1, f2, f3, f4⟩ := dec_whole _ hne (by rw [hft]; exact hw)
      rw [e1]
      rw [hft] at f1 f2
      have hm := front_whole (l.take (front l).1) (l.drop (front l).1) hne (by rw [hft]; exact hw)
      unfold dec
      rw [B_take _ _ _ (by omega), B_take _ _ _ (by omega), B_take _ _ _ (by omega)]
      have e1' := e1
      unfold dec at e1'
      have hb0 : B l 0 = 239 := by rw [← B_take l (front l).1 0 (by omega), ← e2]; rfl
      rw [← e1']
      have n1 : (l.take (front l).1).length = 3 := by rw [← e2]; rfl
      rw [n1, hb0]
      simp only [decodeN]
      simp
      have hl3 : 3 ≤ l.length := by omega
      simp [show 1 < l.length by omega, show 2 < l.length by omega]
    rw [hdt, e1] at hd
    have : (65533 : Nat) = r := congrArg Prod.fst (show (dec [239, 191, 189]) = (r, (front l).1) from hd)
    omega
  rw [e1]
  exact ⟨⟨hr0, hok⟩, by rw [← encodeRune_ok hok, e2], rfl⟩
/-- A text is its characters' bytes, one behind the other. -/
theorem enc_runes : ∀ l, right l = true → encs (runes l) = l ∧ ∀ c ∈ runes l, TxtC c :=
  steps (fun _ => ⟨rfl, by simp [runes_nil]⟩) fun l h ih hr => by
    rw [right_step l h] at hr
    simp only [Bool.and_eq_true, decide_eq_true_eq] at hr
    obtain ⟨⟨hw, h0⟩, hr⟩ := hr
    obtain ⟨t1, t2, t3⟩ := whole_enc l h hw h0
    obtain ⟨i1, i2⟩ := ih hr
    rw [runes_step l h, t3]
    refine ⟨by rw [encs_cons, i1, t2, List.take_append_drop], ?_⟩
    intro c hc
    rcases List.mem_cons.1 hc with rfl | hc
    · exact t1
    · exact i2 c hc
theorem runes_append (l r : List UInt8) (h : right l = true) : runes (l ++ r) = runes l ++ runes r := by
  obtain ⟨e1, e2⟩ := enc_runes l h
  have := runes_enc_append (runes l) (fun c hc => (e2 c hc).2) r
  rw [e1] at this
  exact this

/-! ### the model's own words -/
theorem runesFrom_eq (s : ByteArray) : ∀ (bound i : Nat) (acc : Array Value), Conv.runesFrom s bound i acc = acc ++ ((runesF bound (s.data.toList.drop i)).map fun (c : Nat) => Value.int .i32 (c : Int)).toArray
  | 0, i, acc => by simp [Conv.runesFrom, runesF]
  | bound + 1, i, acc => by
    unfold Conv.runesFrom
    by_cases h : i < s.size
    · have hne := drop_ne (l := s.data.toList) (pos := i) (by rw [size_list]; exact h)
      rw [if_pos h]
      simp only
      rw [runesFrom_eq s bound, decode_dec]
      simp only [runesF, if_neg hne, List.map_cons, List.drop_drop]
      apply Array.ext'
      simp
    · have he : s.data.toList.drop i = [] := by
        apply List.drop_eq_nil_of_le
        rw [size_list]; omega
      rw [if_neg h, he]
      simp [runesF]
theorem runesFrom_all (s : ByteArray) : Conv.runesFrom s s.size 0 #[] = ((runes s.data.toList).map fun (c : Nat) => Value.int .i32 (c : Int)).toArray := by
  rw [runesFrom_eq]
  simp only [List.drop_zero]
  unfold runes
  rw [size_list]
  simp
theorem foldl_enc (ns : List Int) : ∀ s : ByteArray, (ns.foldl (fun r n => r ++ Utf8.encode n) s).data.toList = s.data.toList ++ ns.flatMap encL := by
  induction ns with
  | nil => intro s; simp
  | cons n ns ih =>
    intro s
    rw [List.foldl_cons, ih, ByteArray.data_append]
    simp [encL]
theorem runesBytes_list (ns : List Int) : (runesBytes ns).data.toList = ns.flatMap encL := by
  unfold runesBytes
  rw [foldl_enc]
  rfl
theorem encs_map : ∀ (cs : List Nat), (∀ c ∈ cs, OkC c) → (cs.map fun (c : Nat) => (c : Int)).flatMap encL = encs cs
  | [], _ => rfl
  | c :: cs, h => by
    have h1 := encs_map cs (fun c hc => h c (by simp [hc]))
    have h2 := encL_ok (h c (by simp))
    rw [List.map_cons, List.flatMap_cons, h1, h2, encs_cons]
theorem runesBytes_encs (cs : List Nat) (h : ∀ c ∈ cs, OkC c) : (runesBytes (cs.map fun (c : Nat) => (c : Int))).data.toList = encs cs := by
  rw [runesBytes_list, encs_map cs h]
end Go.Proofs.YtgldgdopabmefaaGreatDoor
