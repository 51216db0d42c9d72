/- Walks over the reference of layer 2: letters. -/
import Derived.Test.YtlikpmmkfjghbaaDoorByteN
namespace Go.Proofs.YtlikpmmkfjghbaaDoor
open Go.RowKit Go.Lib
set_option maxRecDepth 100000
set_option linter.unusedVariables false
theorem rletter_any (c : Nat) (hc : c < 256) (w : World) :
    Calls Tryd.prog 48 #[.int .u8 c] w fun e w' => e = .returned (.bool (letterN c)) ∧ w = w' := by
  by_cases h1 : 97 ≤ c ∧ c ≤ 122
  · have e : letterN c = true := by simp [letterN, h1]
    rw [e]; clear e
    obtain ⟨a1, a2⟩ := h1
    go_enter Tryd.func48, Tryd.ntmps48
    go_wp2
    go_ret
    first | exact ⟨rfl, rfl⟩ | exact ⟨by simp; omega, rfl⟩
  by_cases h2 : 65 ≤ c ∧ c ≤ 90
  · have e : letterN c = true := by simp [letterN, h2]
    rw [e]; clear e
    obtain ⟨a1, a2⟩ := h2
    have a3 : c < 97 := by omega
    clear h1
    go_enter Tryd.func48, Tryd.ntmps48
    go_wp2
    go_ret
    first | exact ⟨rfl, rfl⟩ | exact ⟨by simp; omega, rfl⟩
  have e : letterN c = false := by simp only [letterN]; exact decide_eq_false (by omega)
  rw [e]; clear e
  rcases (show c < 65 ∨ (90 < c ∧ c < 97) ∨ 122 < c by omega) with h6 | ⟨h6, h7⟩ | h6
  · clear h1 h2
    have h8 : c < 97 := by omega
    have h9 : c < 97 := by omega
    go_enter Tryd.func48, Tryd.ntmps48
    go_wp2
    go_ret
    first | exact ⟨rfl, rfl⟩ | exact ⟨by simp; omega, rfl⟩
  · clear h1 h2
    have h8 : 65 ≤ c := by omega
    go_enter Tryd.func48, Tryd.ntmps48
    go_wp2
    go_ret
    first | exact ⟨rfl, rfl⟩ | exact ⟨by simp; omega, rfl⟩
  · clear h1 h2
    have h8 : 97 ≤ c := by omega
    have h9 : 65 ≤ c := by omega
    have h7 : 90 < c := by omega
    go_enter Tryd.func48, Tryd.ntmps48
    go_wp2
    go_ret
    first | exact ⟨rfl, rfl⟩ | exact ⟨by simp; omega, rfl⟩
end Go.Proofs.YtlikpmmkfjghbaaDoor
