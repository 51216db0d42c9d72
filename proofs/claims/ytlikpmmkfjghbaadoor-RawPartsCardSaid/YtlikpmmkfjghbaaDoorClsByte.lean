/- Walks: package class, hexadecimal digits. -/
import Derived.Test.YtlikpmmkfjghbaaDoorClsLet
import Derived.Test.YtlikpmmkfjghbaaDoorClsDig
namespace Go.Proofs.YtlikpmmkfjghbaaDoor
open Go.RowKit Go.Lib
set_option maxRecDepth 100000
set_option linter.unusedVariables false

theorem chex_any (c : Nat) (hc : c < 256) (w : World) :
    Calls Tryd.prog 54 #[.int .u8 c] w fun e w' => e = .returned (.int .i64 (hexN c)) ∧ w = w' := by
  have HD := cdigit_any c hc w
  rcases (show (c < 48) ∨ (48 ≤ c ∧ c ≤ 57) ∨ (57 < c ∧ c < 65) ∨ (65 ≤ c ∧ c ≤ 70) ∨ (70 < c ∧ c < 97) ∨ (97 ≤ c ∧ c ≤ 102) ∨ (102 < c) by omega) with h | ⟨h, h'⟩ | ⟨h, h'⟩ | ⟨h, h'⟩ | ⟨h, h'⟩ | ⟨h, h'⟩ | h
  · have e : hexN c = -1 := by unfold hexN; repeat' split <;> omega
    rw [e]; clear e
    rw [show digitN c = false from decide_eq_false (by omega)] at HD
    have HD := hid HD
    have f0 : c < 65 := by omega
    have f1 : c < 97 := by omega
    go_enter Tryd.func54, Tryd.ntmps54
    go_wp2_with (go_at_call 59; refine HD.out.mono ?_; rintro e w' ⟨rfl, rfl⟩)
    go_ret
    first | exact ⟨rfl, rfl⟩ | exact ⟨by simp; omega, rfl⟩ | exact ⟨congrArg (fun x => Ending.returned (.int .i64 x)) (by omega), rfl⟩
  · have e : hexN c = (c : Int) - 48 := by unfold hexN; repeat' split <;> omega
    rw [e]; clear e
    rw [show digitN c = true from decide_eq_true (by omega)] at HD
    have HD := hid HD
    have f0 : c < 65 := by omega
    have f1 : c < 97 := by omega
    have u : (0 : Int) ≤ (c : Int) - 48 := by omega
    have u2 : (c : Int) - 48 < 256 := by omega
    go_enter Tryd.func54, Tryd.ntmps54
    go_wp2_with (go_at_call 59; refine HD.out.mono ?_; rintro e w' ⟨rfl, rfl⟩)
    go_ret
    first | exact ⟨rfl, rfl⟩ | exact ⟨by simp; omega, rfl⟩ | exact ⟨congrArg (fun x => Ending.returned (.int .i64 x)) (by omega), rfl⟩
  · have e : hexN c = -1 := by unfold hexN; repeat' split <;> omega
    rw [e]; clear e
    rw [show digitN c = false from decide_eq_false (by omega)] at HD
    have HD := hid HD
    have f0 : c < 65 := by omega
    have f1 : c < 97 := by omega
    go_enter Tryd.func54, Tryd.ntmps54
    go_wp2_with (go_at_call 59; refine HD.out.mono ?_; rintro e w' ⟨rfl, rfl⟩)
    go_ret
    first | exact ⟨rfl, rfl⟩ | exact ⟨by simp; omega, rfl⟩ | exact ⟨congrArg (fun x => Ending.returned (.int .i64 x)) (by omega), rfl⟩
  · have e : hexN c = (c : Int) - 65 + 10 := by unfold hexN; repeat' split <;> omega
    rw [e]; clear e
    have f0 : 65 ≤ c := by omega
    have f1 : c ≤ 70 := by omega
    have u : (0 : Int) ≤ (c : Int) + 32 := by omega
    have u2 : (c : Int) + 32 < 256 := by omega
    have u3 : (0 : Int) ≤ (c : Int) + 32 - 97 := by omega
    have u4 : (c : Int) + 32 - 97 < 256 := by omega
    clear HD
    go_enter Tryd.func54, Tryd.ntmps54
    go_wp2
    go_ret
    first | exact ⟨rfl, rfl⟩ | exact ⟨by simp; omega, rfl⟩ | exact ⟨congrArg (fun x => Ending.returned (.int .i64 x)) (by omega), rfl⟩
  · have e : hexN c = -1 := by unfold hexN; repeat' split <;> omega
    rw [e]; clear e
    rw [show digitN c = false from decide_eq_false (by omega)] at HD
    have HD := hid HD
    have f0 : 65 ≤ c := by omega
    have f1 : 70 < c := by omega
    have f2 : c < 97 := by omega
    go_enter Tryd.func54, Tryd.ntmps54
    go_wp2_with (go_at_call 59; refine HD.out.mono ?_; rintro e w' ⟨rfl, rfl⟩)
    go_ret
    first | exact ⟨rfl, rfl⟩ | exact ⟨by simp; omega, rfl⟩ | exact ⟨congrArg (fun x => Ending.returned (.int .i64 x)) (by omega), rfl⟩
  · have e : hexN c = (c : Int) - 97 + 10 := by unfold hexN; repeat' split <;> omega
    rw [e]; clear e
    have f0 : 65 ≤ c := by omega
    have f1 : 70 < c := by omega
    have f2 : 97 ≤ c := by omega
    have f3 : c ≤ 102 := by omega
    have u : (0 : Int) ≤ (c : Int) - 97 := by omega
    have u2 : (c : Int) - 97 < 256 := by omega
    clear HD
    go_enter Tryd.func54, Tryd.ntmps54
    go_wp2
    go_ret
    first | exact ⟨rfl, rfl⟩ | exact ⟨by simp; omega, rfl⟩ | exact ⟨congrArg (fun x => Ending.returned (.int .i64 x)) (by omega), rfl⟩
  · have e : hexN c = -1 := by unfold hexN; repeat' split <;> omega
    rw [e]; clear e
    rw [show digitN c = false from decide_eq_false (by omega)] at HD
    have HD := hid HD
    have f0 : 65 ≤ c := by omega
    have f1 : 70 < c := by omega
    have f2 : 97 ≤ c := by omega
    have f3 : 102 < c := by omega
    go_enter Tryd.func54, Tryd.ntmps54
    go_wp2_with (go_at_call 59; refine HD.out.mono ?_; rintro e w' ⟨rfl, rfl⟩)
    go_ret
    first | exact ⟨rfl, rfl⟩ | exact ⟨by simp; omega, rfl⟩ | exact ⟨congrArg (fun x => Ending.returned (.int .i64 x)) (by omega), rfl⟩
end Go.Proofs.YtlikpmmkfjghbaaDoor
