/- Walks: package class, digits. -/
import Derived.Test.YtlikpmmkfjghbaaDoorByteN
namespace Go.Proofs.YtlikpmmkfjghbaaDoor
open Go.RowKit Go.Lib
set_option maxRecDepth 100000
set_option linter.unusedVariables false

theorem cdigit_any (c : Nat) (hc : c < 256) (w : World) :
    Calls Tryd.prog 59 #[.int .u8 c] w fun e w' => e = .returned (.bool (digitN c)) ∧ w = w' := by
  rcases (show c < 48 ∨ 57 < c ∨ (48 ≤ c ∧ c ≤ 57) by omega) with h | h | ⟨h, h2⟩
  · have e : digitN c = false := by simp only [digitN]; exact decide_eq_false (by omega)
    rw [e]; clear e
    go_enter Tryd.func59, Tryd.ntmps59
    go_wp2
    go_ret
    first | exact ⟨rfl, rfl⟩ | exact ⟨by simp; omega, rfl⟩
  · have e : digitN c = false := by simp only [digitN]; exact decide_eq_false (by omega)
    rw [e]; clear e
    have h2 : 48 ≤ c := by omega
    go_enter Tryd.func59, Tryd.ntmps59
    go_wp2
    go_ret
    first | exact ⟨rfl, rfl⟩ | exact ⟨by simp; omega, rfl⟩
  · have e : digitN c = true := by simp only [digitN]; exact decide_eq_true (by omega)
    rw [e]; clear e
    go_enter Tryd.func59, Tryd.ntmps59
    go_wp2
    go_ret
    first | exact ⟨rfl, rfl⟩ | exact ⟨by simp; omega, rfl⟩
end Go.Proofs.YtlikpmmkfjghbaaDoor
