/- Walks over the reference of layer 2: hexadecimal digits. -/
import Derived.Test.YtlikpmmkfjghbaaDoorByteN
namespace Go.Proofs.YtlikpmmkfjghbaaDoor
open Go.RowKit Go.Lib
set_option maxRecDepth 100000
set_option linter.unusedVariables false
theorem rhex_any (c : Nat) (hc : c < 256) (w : World) :
    Calls Tryd.prog 70 #[.int .u8 c] w fun e w' => e = .returned (.int .i64 (hexN c)) ∧ w = w' := by
  rcases (show (c < 48) ∨ (48 ≤ c ∧ c ≤ 57) ∨ (57 < c ∧ c < 65) ∨ (65 ≤ c ∧ c ≤ 70) ∨ (70 < c ∧ c < 97) ∨ (97 ≤ c ∧ c ≤ 102) ∨ (102 < c) by omega) with h | ⟨h, h'⟩ | ⟨h, h'⟩ | ⟨h, h'⟩ | ⟨h, h'⟩ | ⟨h, h'⟩ | h
  · have e : hexN c = -1 := by unfold hexN; repeat' split <;> omega
    rw [e]; clear e
    have f0a : c < 48 := by omega
    have f1a : c < 97 := by omega
    have f2a : c < 65 := by omega
    go_enter Tryd.func70, Tryd.ntmps70
    go_wp2
    go_ret
    first | exact ⟨rfl, rfl⟩ | exact ⟨by simp; omega, rfl⟩
  · have e : hexN c = (c : Int) - 48 := by unfold hexN; repeat' split <;> omega
    rw [e]; clear e
    have u : (0 : Int) ≤ (c : Int) - 48 := by omega
    have u2 : (c : Int) - 48 < 256 := by omega
    have f0a : 48 ≤ c := by omega
    have f0b : c ≤ 57 := by omega
    have f1a : c < 97 := by omega
    have f2a : c < 65 := by omega
    go_enter Tryd.func70, Tryd.ntmps70
    go_wp2
    go_ret
    first | exact ⟨rfl, rfl⟩ | exact ⟨by simp; omega, rfl⟩
  · have e : hexN c = -1 := by unfold hexN; repeat' split <;> omega
    rw [e]; clear e
    have f0a : 48 ≤ c := by omega
    have f0b : 57 < c := by omega
    have f1a : c < 97 := by omega
    have f2a : c < 65 := by omega
    go_enter Tryd.func70, Tryd.ntmps70
    go_wp2
    go_ret
    first | exact ⟨rfl, rfl⟩ | exact ⟨by simp; omega, rfl⟩
  · have e : hexN c = (c : Int) - 65 + 10 := by unfold hexN; repeat' split <;> omega
    rw [e]; clear e
    have u : (0 : Int) ≤ (c : Int) - 65 := by omega
    have u2 : (c : Int) - 65 < 256 := by omega
    have f0a : 48 ≤ c := by omega
    have f0b : 57 < c := by omega
    have f1a : c < 97 := by omega
    have f2a : 65 ≤ c := by omega
    have f2b : c ≤ 70 := by omega
    go_enter Tryd.func70, Tryd.ntmps70
    go_wp2
    go_ret
    first | exact ⟨rfl, rfl⟩ | exact ⟨by simp; omega, rfl⟩
  · have e : hexN c = -1 := by unfold hexN; repeat' split <;> omega
    rw [e]; clear e
    have f0a : 48 ≤ c := by omega
    have f0b : 57 < c := by omega
    have f1a : c < 97 := by omega
    have f2a : 65 ≤ c := by omega
    have f2b : 70 < c := by omega
    go_enter Tryd.func70, Tryd.ntmps70
    go_wp2
    go_ret
    first | exact ⟨rfl, rfl⟩ | exact ⟨by simp; omega, rfl⟩
  · have e : hexN c = (c : Int) - 97 + 10 := by unfold hexN; repeat' split <;> omega
    rw [e]; clear e
    have u : (0 : Int) ≤ (c : Int) - 97 := by omega
    have u2 : (c : Int) - 97 < 256 := by omega
    have f0a : 48 ≤ c := by omega
    have f0b : 57 < c := by omega
    have f1a : 97 ≤ c := by omega
    have f1b : c ≤ 102 := by omega
    have f2a : 65 ≤ c := by omega
    have f2b : 70 < c := by omega
    go_enter Tryd.func70, Tryd.ntmps70
    go_wp2
    go_ret
    first | exact ⟨rfl, rfl⟩ | exact ⟨by simp; omega, rfl⟩
  · have e : hexN c = -1 := by unfold hexN; repeat' split <;> omega
    rw [e]; clear e
    have f0a : 48 ≤ c := by omega
    have f0b : 57 < c := by omega
    have f1a : 97 ≤ c := by omega
    have f1b : 102 < c := by omega
    have f2a : 65 ≤ c := by omega
    have f2b : 70 < c := by omega
    go_enter Tryd.func70, Tryd.ntmps70
    go_wp2
    go_ret
    first | exact ⟨rfl, rfl⟩ | exact ⟨by simp; omega, rfl⟩
end Go.Proofs.YtlikpmmkfjghbaaDoor
