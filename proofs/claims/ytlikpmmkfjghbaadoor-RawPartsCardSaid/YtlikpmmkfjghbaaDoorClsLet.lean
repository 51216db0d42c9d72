/- Walks: package class, letters. -/
import Derived.Test.YtlikpmmkfjghbaaDoorByteN
namespace Go.Proofs.YtlikpmmkfjghbaaDoor
open Go.RowKit Go.Lib
set_option maxRecDepth 100000
set_option linter.unusedVariables false

def greatN (c : Nat) : Bool := decide (65 ≤ c ∧ c ≤ 90)
theorem cgreat_any (c : Nat) (hc : c < 256) (w : World) :
    Calls Tryd.prog 18 #[.int .u8 c] w fun e w' => e = .returned (.bool (greatN c)) ∧ w = w' := by
  rcases (show c < 65 ∨ 90 < c ∨ (65 ≤ c ∧ c ≤ 90) by omega) with h | h | ⟨h, h2⟩
  · have e : greatN c = false := by simp only [greatN]; exact decide_eq_false (by omega)
    rw [e]; clear e
    go_enter Tryd.func18, Tryd.ntmps18
    go_wp2
    go_ret
    first | exact ⟨rfl, rfl⟩ | exact ⟨by simp; omega, rfl⟩
  · have e : greatN c = false := by simp only [greatN]; exact decide_eq_false (by omega)
    rw [e]; clear e
    have h2 : 65 ≤ c := by omega
    go_enter Tryd.func18, Tryd.ntmps18
    go_wp2
    go_ret
    first | exact ⟨rfl, rfl⟩ | exact ⟨by simp; omega, rfl⟩
  · have e : greatN c = true := by simp only [greatN]; exact decide_eq_true (by omega)
    rw [e]; clear e
    go_enter Tryd.func18, Tryd.ntmps18
    go_wp2
    go_ret
    first | exact ⟨rfl, rfl⟩ | exact ⟨by simp; omega, rfl⟩
theorem cletter_any (c : Nat) (hc : c < 256) (w : World) :
    Calls Tryd.prog 56 #[.int .u8 c] w fun e w' => e = .returned (.bool (letterN c)) ∧ w = w' := by
  have HG := cgreat_any c hc w
  by_cases h1 : 65 ≤ c ∧ c ≤ 90
  · have e : letterN c = true := by simp [letterN, h1]
    rw [e]; clear e
    rw [show greatN c = true from decide_eq_true h1] at HG
    have HG := hid HG
    clear h1
    go_enter Tryd.func56, Tryd.ntmps56
    go_wp2_with (go_at_call 18; refine HG.out.mono ?_; rintro e w' ⟨rfl, rfl⟩)
    go_ret
    first | exact ⟨rfl, rfl⟩ | exact ⟨by simp; omega, rfl⟩
  by_cases h2 : 97 ≤ c ∧ c ≤ 122
  · have e : letterN c = true := by simp only [letterN]; exact decide_eq_true (by omega)
    rw [e]; clear e
    rw [show greatN c = false from decide_eq_false h1] at HG
    have HG := hid HG
    have a1 : 97 ≤ c := by omega
    have a2 : c ≤ 122 := by omega
    clear h1 h2
    go_enter Tryd.func56, Tryd.ntmps56
    go_wp2_with (go_at_call 18; refine HG.out.mono ?_; rintro e w' ⟨rfl, rfl⟩)
    go_ret
    first | exact ⟨rfl, rfl⟩ | exact ⟨by simp; omega, rfl⟩
  by_cases h2 : c < 97
  · have e : letterN c = false := by simp only [letterN]; exact decide_eq_false (by omega)
    rw [e]; clear e
    rw [show greatN c = false from decide_eq_false h1] at HG
    have HG := hid HG
    have a1 : c < 97 := by omega
    clear h1 h2
    go_enter Tryd.func56, Tryd.ntmps56
    go_wp2_with (go_at_call 18; refine HG.out.mono ?_; rintro e w' ⟨rfl, rfl⟩)
    go_ret
    first | exact ⟨rfl, rfl⟩ | exact ⟨by simp; omega, rfl⟩
  by_cases h2 : 122 < c
  · have e : letterN c = false := by simp only [letterN]; exact decide_eq_false (by omega)
    rw [e]; clear e
    rw [show greatN c = false from decide_eq_false h1] at HG
    have HG := hid HG
    have a1 : 97 ≤ c := by omega
    have a2 : 122 < c := by omega
    clear h1 h2
    go_enter Tryd.func56, Tryd.ntmps56
    go_wp2_with (go_at_call 18; refine HG.out.mono ?_; rintro e w' ⟨rfl, rfl⟩)
    go_ret
    first | exact ⟨rfl, rfl⟩ | exact ⟨by simp; omega, rfl⟩
  omega
end Go.Proofs.YtlikpmmkfjghbaaDoor
