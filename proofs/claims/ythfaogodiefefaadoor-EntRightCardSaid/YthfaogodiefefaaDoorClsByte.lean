/- Walks: package class, letters, digits, hexadecimal digits. -/
import Derived.Test.YthfaogodiefefaaDoorRefByte
namespace Go.Proofs.YthfaogodiefefaaDoor
open Go.RowKit Go.Lib
set_option maxRecDepth 100000
set_option linter.unusedVariables false

def greatN (c : Nat) : Bool := decide (65 ≤ c ∧ c ≤ 90)
theorem cgreat_any (c : Nat) (hc : c < 256) (w : World) :
    Calls Tryd.prog 41 #[.int .u8 c] w fun e w' => e = .returned (.bool (greatN c)) ∧ w = w' := by
  rcases (show c < 65 ∨ 90 < c ∨ (65 ≤ c ∧ c ≤ 90) by omega) with h | h | ⟨h, h2⟩
  · have e : greatN c = false := by simp only [greatN]; exact decide_eq_false (by omega)
    rw [e]; clear e
    go_enter Tryd.func41, Tryd.ntmps41
    go_wp2
    go_ret
    first | exact ⟨rfl, rfl⟩ | exact ⟨by simp; omega, rfl⟩
  · have e : greatN c = false := by simp only [greatN]; exact decide_eq_false (by omega)
    rw [e]; clear e
    have h2 : 65 ≤ c := by omega
    go_enter Tryd.func41, Tryd.ntmps41
    go_wp2
    go_ret
    first | exact ⟨rfl, rfl⟩ | exact ⟨by simp; omega, rfl⟩
  · have e : greatN c = true := by simp only [greatN]; exact decide_eq_true (by omega)
    rw [e]; clear e
    go_enter Tryd.func41, Tryd.ntmps41
    go_wp2
    go_ret
    first | exact ⟨rfl, rfl⟩ | exact ⟨by simp; omega, rfl⟩
theorem cdigit_any (c : Nat) (hc : c < 256) (w : World) :
    Calls Tryd.prog 57 #[.int .u8 c] w fun e w' => e = .returned (.bool (digitN c)) ∧ w = w' := by
  rcases (show c < 48 ∨ 57 < c ∨ (48 ≤ c ∧ c ≤ 57) by omega) with h | h | ⟨h, h2⟩
  · have e : digitN c = false := by simp only [digitN]; exact decide_eq_false (by omega)
    rw [e]; clear e
    go_enter Tryd.func57, Tryd.ntmps57
    go_wp2
    go_ret
    first | exact ⟨rfl, rfl⟩ | exact ⟨by simp; omega, rfl⟩
  · have e : digitN c = false := by simp only [digitN]; exact decide_eq_false (by omega)
    rw [e]; clear e
    have h2 : 48 ≤ c := by omega
    go_enter Tryd.func57, Tryd.ntmps57
    go_wp2
    go_ret
    first | exact ⟨rfl, rfl⟩ | exact ⟨by simp; omega, rfl⟩
  · have e : digitN c = true := by simp only [digitN]; exact decide_eq_true (by omega)
    rw [e]; clear e
    go_enter Tryd.func57, Tryd.ntmps57
    go_wp2
    go_ret
    first | exact ⟨rfl, rfl⟩ | exact ⟨by simp; omega, rfl⟩
theorem cletter_any (c : Nat) (hc : c < 256) (w : World) :
    Calls Tryd.prog 21 #[.int .u8 c] w fun e w' => e = .returned (.bool (letterN c)) ∧ w = w' := by
  have HG := cgreat_any c hc w
  by_cases h1 : 65 ≤ c ∧ c ≤ 90
  · have e : letterN c = true := by simp [letterN, h1]
    rw [e]; clear e
    rw [show greatN c = true from decide_eq_true h1] at HG
    have HG := hid HG
    clear h1
    go_enter Tryd.func21, Tryd.ntmps21
    go_wp2_with (go_at_call 41; refine HG.out.mono ?_; rintro e w' ⟨rfl, rfl⟩)
    go_ret
    first | exact ⟨rfl, rfl⟩ | exact ⟨by simp; omega, rfl⟩
  by_cases h2 : 97 ≤ c ∧ c ≤ 122
  · have e : letterN c = true := by simp only [letterN]; exact decide_eq_true (by omega)
    rw [e]; clear e
    rw [show greatN c = false from decide_eq_false h1] at HG
    have HG := hid HG
    have a1 : 97 ≤ c := by omega
    have a2 : c ≤ 122 := by omega
    clear h1 h2
    go_enter Tryd.func21, Tryd.ntmps21
    go_wp2_with (go_at_call 41; refine HG.out.mono ?_; rintro e w' ⟨rfl, rfl⟩)
    go_ret
    first | exact ⟨rfl, rfl⟩ | exact ⟨by simp; omega, rfl⟩
  by_cases h2 : c < 97
  · have e : letterN c = false := by simp only [letterN]; exact decide_eq_false (by omega)
    rw [e]; clear e
    rw [show greatN c = false from decide_eq_false h1] at HG
    have HG := hid HG
    have a1 : c < 97 := by omega
    clear h1 h2
    go_enter Tryd.func21, Tryd.ntmps21
    go_wp2_with (go_at_call 41; refine HG.out.mono ?_; rintro e w' ⟨rfl, rfl⟩)
    go_ret
    first | exact ⟨rfl, rfl⟩ | exact ⟨by simp; omega, rfl⟩
  by_cases h2 : 122 < c
  · have e : letterN c = false := by simp only [letterN]; exact decide_eq_false (by omega)
    rw [e]; clear e
    rw [show greatN c = false from decide_eq_false h1] at HG
    have HG := hid HG
    have a1 : 97 ≤ c := by omega
    have a2 : 122 < c := by omega
    clear h1 h2
    go_enter Tryd.func21, Tryd.ntmps21
    go_wp2_with (go_at_call 41; refine HG.out.mono ?_; rintro e w' ⟨rfl, rfl⟩)
    go_ret
    first | exact ⟨rfl, rfl⟩ | exact ⟨by simp; omega, rfl⟩
  omega
theorem chex_any (c : Nat) (hc : c < 256) (w : World) :
    Calls Tryd.prog 51 #[.int .u8 c] w fun e w' => e = .returned (.int .i64 (hexN c)) ∧ w = w' := by
  have HD := cdigit_any c hc w
  rcases (show (c < 48) ∨ (48 ≤ c ∧ c ≤ 57) ∨ (57 < c ∧ c < 65) ∨ (65 ≤ c ∧ c ≤ 70) ∨ (70 < c ∧ c < 97) ∨ (97 ≤ c ∧ c ≤ 102) ∨ (102 < c) by omega) with h | ⟨h, h'⟩ | ⟨h, h'⟩ | ⟨h, h'⟩ | ⟨h, h'⟩ | ⟨h, h'⟩ | h
  · have e : hexN c = -1 := by unfold hexN; repeat' split <;> omega
    rw [e]; clear e
    rw [show digitN c = false from decide_eq_false (by omega)] at HD
    have HD := hid HD
    have f0 : c < 65 := by omega
    have f1 : c < 97 := by omega
    go_enter Tryd.func51, Tryd.ntmps51
    go_wp2_with (go_at_call 57; refine HD.out.mono ?_; rintro e w' ⟨rfl, rfl⟩)
    go_ret
    first | exact ⟨rfl, rfl⟩ | exact ⟨by simp; omega, rfl⟩ | exact ⟨congrArg (fun x => Ending.returned (.int .i64 x)) (by omega), rfl⟩
  · have e : hexN c = (c : Int) - 48 := by unfold hexN; repeat' split <;> omega
    rw [e]; clear e
    rw [show digitN c = true from decide_eq_true (by omega)] at HD
    have HD := hid HD
    have f0 : c < 65 := by omega
    have f1 : c < 97 := by omega
    have u : (0 : Int) ≤ (c : Int) - 48 := by omega
    have u2 : (c : Int) - 48 < 256 := by omega
    go_enter Tryd.func51, Tryd.ntmps51
    go_wp2_with (go_at_call 57; refine HD.out.mono ?_; rintro e w' ⟨rfl, rfl⟩)
    go_ret
    first | exact ⟨rfl, rfl⟩ | exact ⟨by simp; omega, rfl⟩ | exact ⟨congrArg (fun x => Ending.returned (.int .i64 x)) (by omega), rfl⟩
  · have e : hexN c = -1 := by unfold hexN; repeat' split <;> omega
    rw [e]; clear e
    rw [show digitN c = false from decide_eq_false (by omega)] at HD
    have HD := hid HD
    have f0 : c < 65 := by omega
    have f1 : c < 97 := by omega
    go_enter Tryd.func51, Tryd.ntmps51
    go_wp2_with (go_at_call 57; refine HD.out.mono ?_; rintro e w' ⟨rfl, rfl⟩)
    go_ret
    first | exact ⟨rfl, rfl⟩ | exact ⟨by simp; omega, rfl⟩ | exact ⟨congrArg (fun x => Ending.returned (.int .i64 x)) (by omega), rfl⟩
  · have e : hexN c = (c : Int) - 65 + 10 := by unfold hexN; repeat' split <;> omega
    rw [e]; clear e
    have f0 : 65 ≤ c := by omega
    have f1 : c ≤ 70 := by omega
    have u : (0 : Int) ≤ (c : Int) + 32 := by omega
    have u2 : (c : Int) + 32 < 256 := by omega
    have u3 : (0 : Int) ≤ (c : Int) + 32 - 97 := by omega
    have u4 : (c : Int) + 32 - 97 < 256 := by omega
    clear HD
    go_enter Tryd.func51, Tryd.ntmps51
    go_wp2
    go_ret
    first | exact ⟨rfl, rfl⟩ | exact ⟨by simp; omega, rfl⟩ | exact ⟨congrArg (fun x => Ending.returned (.int .i64 x)) (by omega), rfl⟩
  · have e : hexN c = -1 := by unfold hexN; repeat' split <;> omega
    rw [e]; clear e
    rw [show digitN c = false from decide_eq_false (by omega)] at HD
    have HD := hid HD
    have f0 : 65 ≤ c := by omega
    have f1 : 70 < c := by omega
    have f2 : c < 97 := by omega
    go_enter Tryd.func51, Tryd.ntmps51
    go_wp2_with (go_at_call 57; refine HD.out.mono ?_; rintro e w' ⟨rfl, rfl⟩)
    go_ret
    first | exact ⟨rfl, rfl⟩ | exact ⟨by simp; omega, rfl⟩ | exact ⟨congrArg (fun x => Ending.returned (.int .i64 x)) (by omega), rfl⟩
  · have e : hexN c = (c : Int) - 97 + 10 := by unfold hexN; repeat' split <;> omega
    rw [e]; clear e
    have f0 : 65 ≤ c := by omega
    have f1 : 70 < c := by omega
    have f2 : 97 ≤ c := by omega
    have f3 : c ≤ 102 := by omega
    have u : (0 : Int) ≤ (c : Int) - 97 := by omega
    have u2 : (c : Int) - 97 < 256 := by omega
    clear HD
    go_enter Tryd.func51, Tryd.ntmps51
    go_wp2
    go_ret
    first | exact ⟨rfl, rfl⟩ | exact ⟨by simp; omega, rfl⟩ | exact ⟨congrArg (fun x => Ending.returned (.int .i64 x)) (by omega), rfl⟩
  · have e : hexN c = -1 := by unfold hexN; repeat' split <;> omega
    rw [e]; clear e
    rw [show digitN c = false from decide_eq_false (by omega)] at HD
    have HD := hid HD
    have f0 : 65 ≤ c := by omega
    have f1 : 70 < c := by omega
    have f2 : 97 ≤ c := by omega
    have f3 : 102 < c := by omega
    go_enter Tryd.func51, Tryd.ntmps51
    go_wp2_with (go_at_call 57; refine HD.out.mono ?_; rintro e w' ⟨rfl, rfl⟩)
    go_ret
    first | exact ⟨rfl, rfl⟩ | exact ⟨by simp; omega, rfl⟩ | exact ⟨congrArg (fun x => Ending.returned (.int .i64 x)) (by omega), rfl⟩
end Go.Proofs.YthfaogodiefefaaDoor
