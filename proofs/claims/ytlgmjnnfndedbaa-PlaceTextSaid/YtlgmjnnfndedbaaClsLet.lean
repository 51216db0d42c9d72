/- Laws that every walk uses; a slice of bytes as a text. Plain Lean: a text as its characters' numbers, and back. Nothing of a program stands here. Plain Lean: kinds of characters, folding and small letters. Nothing of a program stands here. Walks: package class, letters. -/
import Derived.Test.YtlgmjnnfndedbaaAppT
import Derived.Laws.BytesArg
import Derived.Laws.Cover4
import Derived.Laws.IdiomStrings
namespace Go.Proofs.Ytlgmjnnfndedbaa
open Go.RowKit Go.Lib
set_option maxRecDepth 100000
set_option linter.unusedVariables false

theorem conv_bytes {w : World} {a : Option Addr} {len : Nat} {l : List UInt8} (h : IsB w a len l) (cap : Nat) :
    (convert 84 9 (.slice a len cap)).run Try.prog w = .ok (.string ⟨l.toArray⟩) w := by
  obtain ⟨hl, h0 | ⟨b, off, rfl, hat⟩⟩ := h
  · subst h0
    obtain rfl : l = [] := List.length_eq_zero_iff.1 hl
    cases a with
    | none => exact run_convert_bytes_nil w _ _ Try.underlying84 Try.underlying5 0 cap _ Try.underlying9
    | some x => exact run_convert_bytes_back w _ _ _ x cap [] Try.underlying84 Try.underlying5 Try.underlying9 (fun j hj => absurd hj (by simp))
  · subst hl
    refine run_convert_bytes_back w _ _ _ ⟨b, off, none⟩ cap l Try.underlying84 Try.underlying5 Try.underlying9 (fun j hj => ?_)
    rw [addr_add, hat j hj, U8.B_eq (List.getElem?_eq_getElem hj)]
end Go.Proofs.Ytlgmjnnfndedbaa
namespace Go.Proofs.Ytlgmjnnfndedbaa
open Go.Lib U8
set_option maxRecDepth 100000
set_option linter.unusedVariables false

/-! ### a number's bytes -/
def encN (c : Nat) : List UInt8 :=
  if c < 128 then [UInt8.ofNat c]
  else if c < 2048 then [UInt8.ofNat (192 + c / 64), UInt8.ofNat (128 + c % 64)]
  else if c < 65536 then [UInt8.ofNat (224 + c / 4096), UInt8.ofNat (128 + c / 64 % 64), UInt8.ofNat (128 + c % 64)]
  else [UInt8.ofNat (240 + c / 262144), UInt8.ofNat (128 + c / 4096 % 64), UInt8.ofNat (128 + c / 64 % 64), UInt8.ofNat (128 + c % 64)]
def OkC (c : Nat) : Prop := c < 55296 ∨ (57344 ≤ c ∧ c ≤ 1114111)
/-! ### texts and their numbers -/
/-- A character's number: one that may be, and not 0. -/
def TxtC (c : Nat) : Prop := c ≠ 0 ∧ OkC c
/-! ### the model's own words -/
end Go.Proofs.Ytlgmjnnfndedbaa
namespace Go.Proofs.Ytlgmjnnfndedbaa
open Go.Lib U8
set_option maxRecDepth 100000
set_option linter.unusedVariables false

/-! ### bytes -/
def lowC (c : UInt8) : UInt8 := if 65 ≤ c.toNat ∧ c.toNat ≤ 90 then c + 32 else c
theorem lowC_num (c : UInt8) : (lowC c).toNat = if 65 ≤ c.toNat ∧ c.toNat ≤ 90 then c.toNat + 32 else c.toNat := by
  unfold lowC
  split
  · rw [UInt8.toNat_add]
    have : (32 : UInt8).toNat = 32 := rfl
    omega
  · rfl
def lowL (l : List UInt8) : List UInt8 := l.map lowC
theorem lowL_len (l : List UInt8) : (lowL l).length = l.length := by simp [lowL]
/-! ### folding -/
/-! ### around a place -/
end Go.Proofs.Ytlgmjnnfndedbaa
namespace Go.Proofs.Ytlgmjnnfndedbaa
open Go.RowKit Go.Lib
set_option maxRecDepth 100000
set_option linter.unusedVariables false

def greatN (c : Nat) : Bool := decide (65 ≤ c ∧ c ≤ 90)
theorem cgreat_any (c : Nat) (hc : c < 256) (w : World) :
    Calls Try.prog 95 #[.int .u8 c] w fun e w' => e = .returned (.bool (greatN c)) ∧ w = w' := by
  rcases (show c < 65 ∨ 90 < c ∨ (65 ≤ c ∧ c ≤ 90) by omega) with h | h | ⟨h, h2⟩
  · have e : greatN c = false := by simp only [greatN]; exact decide_eq_false (by omega)
    rw [e]; clear e
    go_enter Try.func95, Try.ntmps95
    go_wp2
    go_ret
    first | exact ⟨rfl, rfl⟩ | exact ⟨by simp; omega, rfl⟩
  · have e : greatN c = false := by simp only [greatN]; exact decide_eq_false (by omega)
    rw [e]; clear e
    have h2 : 65 ≤ c := by omega
    go_enter Try.func95, Try.ntmps95
    go_wp2
    go_ret
    first | exact ⟨rfl, rfl⟩ | exact ⟨by simp; omega, rfl⟩
  · have e : greatN c = true := by simp only [greatN]; exact decide_eq_true (by omega)
    rw [e]; clear e
    go_enter Try.func95, Try.ntmps95
    go_wp2
    go_ret
    first | exact ⟨rfl, rfl⟩ | exact ⟨by simp; omega, rfl⟩
end Go.Proofs.Ytlgmjnnfndedbaa
