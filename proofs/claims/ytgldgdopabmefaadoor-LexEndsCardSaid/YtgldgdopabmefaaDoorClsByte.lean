/- Walks: package class, letters. Walks: package class, is a byte a blank. Walks: package class, hexadecimal digits. -/
import Derived.Test.YtgldgdopabmefaaDoorClsDig
namespace Go.Proofs.YtgldgdopabmefaaDoor
open Go.RowKit Go.Lib
set_option maxRecDepth 100000
set_option linter.unusedVariables false

def greatN (c : Nat) : Bool := decide (65 ≤ c ∧ c ≤ 90)
theorem cgreat_any (c : Nat) (hc : c < 256) (w : World) :
    Calls Tryd.prog 26 #[.int .u8 c] w fun e w' => e = .returned (.bool (greatN c)) ∧ w = w' := by
  rcases (show c < 65 ∨ 90 < c ∨ (65 ≤ c ∧ c ≤ 90) by omega) with h | h | ⟨h, h2⟩
  · have e : greatN c = false := by simp only [greatN]; exact decide_eq_false (by omega)
    rw [e]; clear e
    go_enter Tryd.func26, Tryd.ntmps26
    go_wp2
    go_ret
    first | exact ⟨rfl, rfl⟩ | exact ⟨by simp; omega, rfl⟩
  · have e : greatN c = false := by simp only [greatN]; exact decide_eq_false (by omega)
    rw [e]; clear e
    have h2 : 65 ≤ c := by omega
    go_enter Tryd.func26, Tryd.ntmps26
    go_wp2
    go_ret
    first | exact ⟨rfl, rfl⟩ | exact ⟨by simp; omega, rfl⟩
  · have e : greatN c = true := by simp only [greatN]; exact decide_eq_true (by omega)
    rw [e]; clear e
    go_enter Tryd.func26, Tryd.ntmps26
    go_wp2
    go_ret
    first | exact ⟨rfl, rfl⟩ | exact ⟨by simp; omega, rfl⟩
theorem cletter_any (c : Nat) (hc : c < 256) (w : World) :
    Calls Tryd.prog 38 #[.int .u8 c] w fun e w' => e = .returned (.bool (letterN c)) ∧ w = w' := by
  have HG := cgreat_any c hc w
  by_cases h1 : 65 ≤ c ∧ c ≤ 90
  · have e : letterN c = true := by simp [letterN, h1]
    rw [e]; clear e
    rw [show greatN c = true from decide_eq_true h1] at HG
    have HG := hid HG
    clear h1
    go_enter Tryd.func38, Tryd.ntmps38
    go_wp2_with (go_at_call 26; refine HG.out.mono ?_; rintro e w' ⟨rfl, rfl⟩)
    go_ret
    first | exact ⟨rfl, rfl⟩ | exact ⟨by simp; omega, rfl⟩
  by_cases h2 : 97 ≤ c ∧ c ≤ 122
  · have e : letterN c = true := by simp only [letterN]; exact decide_eq_true (by omega)
    rw [e]; clear e
    rw [show greatN c = false from decide_eq_false h1] at HG
    have HG := hid HG
    have a1 : 97 ≤ c := by omega
    have a2 : c ≤ 122 := by omega
    clear h1 h2
    go_enter Tryd.func38, Tryd.ntmps38
    go_wp2_with (go_at_call 26; refine HG.out.mono ?_; rintro e w' ⟨rfl, rfl⟩)
    go_ret
    first | exact ⟨rfl, rfl⟩ | exact ⟨by simp; omega, rfl⟩
  by_cases h2 : c < 97
  · have e : letterN c = false := by simp only [letterN]; exact decide_eq_false (by omega)
    rw [e]; clear e
    rw [show greatN c = false from decide_eq_false h1] at HG
    have HG := hid HG
    have a1 : c < 97 := by omega
    clear h1 h2
    go_enter Tryd.func38, Tryd.ntmps38
    go_wp2_with (go_at_call 26; refine HG.out.mono ?_; rintro e w' ⟨rfl, rfl⟩)
    go_ret
    first | exact ⟨rfl, rfl⟩ | exact ⟨by simp; omega, rfl⟩
  by_cases h2 : 122 < c
  · have e : letterN c = false := by simp only [letterN]; exact decide_eq_false (by omega)
    rw [e]; clear e
    rw [show greatN c = false from decide_eq_false h1] at HG
    have HG := hid HG
    have a1 : 97 ≤ c := by omega
    have a2 : 122 < c := by omega
    clear h1 h2
    go_enter Tryd.func38, Tryd.ntmps38
    go_wp2_with (go_at_call 26; refine HG.out.mono ?_; rintro e w' ⟨rfl, rfl⟩)
    go_ret
    first | exact ⟨rfl, rfl⟩ | exact ⟨by simp; omega, rfl⟩
  omega
end Go.Proofs.YtgldgdopabmefaaDoor
namespace Go.Proofs.YtgldgdopabmefaaDoor
open Go.RowKit Go.Lib
set_option maxRecDepth 100000
set_option linter.unusedVariables false

theorem cspace_any (c : Nat) (hc : c < 256) (w : World) :
    Calls Tryd.prog 45 #[.int .u8 c] w fun e w' => e = .returned (.bool (spaceN c)) ∧ w = w' := by
  by_cases h0 : c = 9
  · subst h0
    have e : spaceN 9 = true := by decide
    rw [e]; clear e
    go_enter Tryd.func45, Tryd.ntmps45
    go_wp2
    go_ret
    first | exact ⟨rfl, rfl⟩ | exact ⟨by simp; omega, rfl⟩
  have t0 : ((c : Int) == 9) = false := beq_eq_false_iff_ne.2 (by omega)
  by_cases h1 : c = 10
  · subst h1
    have e : spaceN 10 = true := by decide
    rw [e]; clear e
    go_enter Tryd.func45, Tryd.ntmps45
    go_wp2
    go_ret
    first | exact ⟨rfl, rfl⟩ | exact ⟨by simp; omega, rfl⟩
  have t1 : ((c : Int) == 10) = false := beq_eq_false_iff_ne.2 (by omega)
  by_cases h2 : c = 12
  · subst h2
    have e : spaceN 12 = true := by decide
    rw [e]; clear e
    go_enter Tryd.func45, Tryd.ntmps45
    go_wp2
    go_ret
    first | exact ⟨rfl, rfl⟩ | exact ⟨by simp; omega, rfl⟩
  have t2 : ((c : Int) == 12) = false := beq_eq_false_iff_ne.2 (by omega)
  by_cases h3 : c = 13
  · subst h3
    have e : spaceN 13 = true := by decide
    rw [e]; clear e
    go_enter Tryd.func45, Tryd.ntmps45
    go_wp2
    go_ret
    first | exact ⟨rfl, rfl⟩ | exact ⟨by simp; omega, rfl⟩
  have t3 : ((c : Int) == 13) = false := beq_eq_false_iff_ne.2 (by omega)
  by_cases h4 : c = 32
  · subst h4
    have e : spaceN 32 = true := by decide
    rw [e]; clear e
    go_enter Tryd.func45, Tryd.ntmps45
    go_wp2
    go_ret
    first | exact ⟨rfl, rfl⟩ | exact ⟨by simp; omega, rfl⟩
  have t4 : ((c : Int) == 32) = false := beq_eq_false_iff_ne.2 (by omega)
  have e : spaceN c = false := by simp [spaceN, h0, h1, h2, h3, h4]
  rw [e]; clear e h0 h1 h2 h3 h4
  go_enter Tryd.func45, Tryd.ntmps45
  go_wp2
  go_ret
  first | exact ⟨rfl, rfl⟩ | exact ⟨by simp; omega, rfl⟩
end Go.Proofs.YtgldgdopabmefaaDoor
namespace Go.Proofs.YtgldgdopabmefaaDoor
open Go.RowKit Go.Lib
set_option maxRecDepth 100000
set_option linter.unusedVariables false

theorem chex_any (c : Nat) (hc : c < 256) (w : World) :
    Calls Tryd.prog 69 #[.int .u8 c] w fun e w' => e = .returned (.int .i64 (hexN c)) ∧ w = w' := by
  have HD := cdigit_any c hc w
  rcases (show (c < 48) ∨ (48 ≤ c ∧ c ≤ 57) ∨ (57 < c ∧ c < 65) ∨ (65 ≤ c ∧ c ≤ 70) ∨ (70 < c ∧ c < 97) ∨ (97 ≤ c ∧ c ≤ 102) ∨ (102 < c) by omega) with h | ⟨h, h'⟩ | ⟨h, h'⟩ | ⟨h, h'⟩ | ⟨h, h'⟩ | ⟨h, h'⟩ | h
  · have e : hexN c = -1 := by unfold hexN; repeat' split <;> omega
    rw [e]; clear e
    rw [show digitN c = false from decide_eq_false (by omega)] at HD
    have HD := hid HD
    have f0 : c < 65 := by omega
    have f1 : c < 97 := by omega
    go_enter Tryd.func69, Tryd.ntmps69
    go_wp2_with (go_at_call 73; refine HD.out.mono ?_; rintro e w' ⟨rfl, rfl⟩)
    go_ret
    first | exact ⟨rfl, rfl⟩ | exact ⟨by simp; omega, rfl⟩ | exact ⟨congrArg (fun x => Ending.returned (.int .i64 x)) (by omega), rfl⟩
  · have e : hexN c = (c : Int) - 48 := by unfold hexN; repeat' split <;> omega
    rw [e]; clear e
    rw [show digitN c = true from decide_eq_true (by omega)] at HD
    have HD := hid HD
    have f0 : c < 65 := by omega
    have f1 : c < 97 := by omega
    have u : (0 : Int) ≤ (c : Int) - 48 := by omega
    have u2 : (c : Int) - 48 < 256 := by omega
    go_enter Tryd.func69, Tryd.ntmps69
    go_wp2_with (go_at_call 73; refine HD.out.mono ?_; rintro e w' ⟨rfl, rfl⟩)
    go_ret
    first | exact ⟨rfl, rfl⟩ | exact ⟨by simp; omega, rfl⟩ | exact ⟨congrArg (fun x => Ending.returned (.int .i64 x)) (by omega), rfl⟩
  · have e : hexN c = -1 := by unfold hexN; repeat' split <;> omega
    rw [e]; clear e
    rw [show digitN c = false from decide_eq_false (by omega)] at HD
    have HD := hid HD
    have f0 : c < 65 := by omega
    have f1 : c < 97 := by omega
    go_enter Tryd.func69, Tryd.ntmps69
    go_wp2_with (go_at_call 73; refine HD.out.mono ?_; rintro e w' ⟨rfl, rfl⟩)
    go_ret
    first | exact ⟨rfl, rfl⟩ | exact ⟨by simp; omega, rfl⟩ | exact ⟨congrArg (fun x => Ending.returned (.int .i64 x)) (by omega), rfl⟩
  · have e : hexN c = (c : Int) - 65 + 10 := by unfold hexN; repeat' split <;> omega
    rw [e]; clear e
    have f0 : 65 ≤ c := by omega
    have f1 : c ≤ 70 := by omega
    have u : (0 : Int) ≤ (c : Int) + 32 := by omega
    have u2 : (c : Int) + 32 < 256 := by omega
    have u3 : (0 : Int) ≤ (c : Int) + 32 - 97 := by omega
    have u4 : (c : Int) + 32 - 97 < 256 := by omega
    clear HD
    go_enter Tryd.func69, Tryd.ntmps69
    go_wp2
    go_ret
    first | exact ⟨rfl, rfl⟩ | exact ⟨by simp; omega, rfl⟩ | exact ⟨congrArg (fun x => Ending.returned (.int .i64 x)) (by omega), rfl⟩
  · have e : hexN c = -1 := by unfold hexN; repeat' split <;> omega
    rw [e]; clear e
    rw [show digitN c = false from decide_eq_false (by omega)] at HD
    have HD := hid HD
    have f0 : 65 ≤ c := by omega
    have f1 : 70 < c := by omega
    have f2 : c < 97 := by omega
    go_enter Tryd.func69, Tryd.ntmps69
    go_wp2_with (go_at_call 73; refine HD.out.mono ?_; rintro e w' ⟨rfl, rfl⟩)
    go_ret
    first | exact ⟨rfl, rfl⟩ | exact ⟨by simp; omega, rfl⟩ | exact ⟨congrArg (fun x => Ending.returned (.int .i64 x)) (by omega), rfl⟩
  · have e : hexN c = (c : Int) - 97 + 10 := by unfold hexN; repeat' split <;> omega
    rw [e]; clear e
    have f0 : 65 ≤ c := by omega
    have f1 : 70 < c := by omega
    have f2 : 97 ≤ c := by omega
    have f3 : c ≤ 102 := by omega
    have u : (0 : Int) ≤ (c : Int) - 97 := by omega
    have u2 : (c : Int) - 97 < 256 := by omega
    clear HD
    go_enter Tryd.func69, Tryd.ntmps69
    go_wp2
    go_ret
    first | exact ⟨rfl, rfl⟩ | exact ⟨by simp; omega, rfl⟩ | exact ⟨congrArg (fun x => Ending.returned (.int .i64 x)) (by omega), rfl⟩
  · have e : hexN c = -1 := by unfold hexN; repeat' split <;> omega
    rw [e]; clear e
    rw [show digitN c = false from decide_eq_false (by omega)] at HD
    have HD := hid HD
    have f0 : 65 ≤ c := by omega
    have f1 : 70 < c := by omega
    have f2 : 97 ≤ c := by omega
    have f3 : 102 < c := by omega
    go_enter Tryd.func69, Tryd.ntmps69
    go_wp2_with (go_at_call 73; refine HD.out.mono ?_; rintro e w' ⟨rfl, rfl⟩)
    go_ret
    first | exact ⟨rfl, rfl⟩ | exact ⟨by simp; omega, rfl⟩ | exact ⟨congrArg (fun x => Ending.returned (.int .i64 x)) (by omega), rfl⟩
end Go.Proofs.YtgldgdopabmefaaDoor
