/- Walks: package class, what a byte is, what a blank is. -/
import Derived.Test.YtgnoiifakipliaaDoorRefClass
namespace Go.Proofs.YtgnoiifakipliaaDoor
open Go.RowKit Go.Lib
set_option maxRecDepth 100000
set_option linter.unusedVariables false

def greatN (c : Nat) : Bool := decide (65 ≤ c ∧ c ≤ 90)
def betw (r lo hi : Int) : Bool := decide (lo ≤ r ∧ r ≤ hi)
theorem cgreat_any (c : Nat) (hc : c < 256) (w : World) :
    Calls Tryd.prog 31 #[.int .u8 c] w fun e w' => e = .returned (.bool (greatN c)) ∧ w = w' := by
  rcases (show c < 65 ∨ 90 < c ∨ (65 ≤ c ∧ c ≤ 90) by omega) with h | h | ⟨h, h2⟩
  · have e : greatN c = false := by simp only [greatN]; exact decide_eq_false (by omega)
    rw [e]; clear e
    go_enter Tryd.func31, Tryd.ntmps31
    go_wp2
    go_ret
    first | exact ⟨rfl, rfl⟩ | exact ⟨by simp; omega, rfl⟩
  · have e : greatN c = false := by simp only [greatN]; exact decide_eq_false (by omega)
    rw [e]; clear e
    have h2 : 65 ≤ c := by omega
    go_enter Tryd.func31, Tryd.ntmps31
    go_wp2
    go_ret
    first | exact ⟨rfl, rfl⟩ | exact ⟨by simp; omega, rfl⟩
  · have e : greatN c = true := by simp only [greatN]; exact decide_eq_true (by omega)
    rw [e]; clear e
    go_enter Tryd.func31, Tryd.ntmps31
    go_wp2
    go_ret
    first | exact ⟨rfl, rfl⟩ | exact ⟨by simp; omega, rfl⟩
theorem cdigit_any (c : Nat) (hc : c < 256) (w : World) :
    Calls Tryd.prog 13 #[.int .u8 c] w fun e w' => e = .returned (.bool (digitN c)) ∧ w = w' := by
  rcases (show c < 48 ∨ 57 < c ∨ (48 ≤ c ∧ c ≤ 57) by omega) with h | h | ⟨h, h2⟩
  · have e : digitN c = false := by simp only [digitN]; exact decide_eq_false (by omega)
    rw [e]; clear e
    go_enter Tryd.func13, Tryd.ntmps13
    go_wp2
    go_ret
    first | exact ⟨rfl, rfl⟩ | exact ⟨by simp; omega, rfl⟩
  · have e : digitN c = false := by simp only [digitN]; exact decide_eq_false (by omega)
    rw [e]; clear e
    have h2 : 48 ≤ c := by omega
    go_enter Tryd.func13, Tryd.ntmps13
    go_wp2
    go_ret
    first | exact ⟨rfl, rfl⟩ | exact ⟨by simp; omega, rfl⟩
  · have e : digitN c = true := by simp only [digitN]; exact decide_eq_true (by omega)
    rw [e]; clear e
    go_enter Tryd.func13, Tryd.ntmps13
    go_wp2
    go_ret
    first | exact ⟨rfl, rfl⟩ | exact ⟨by simp; omega, rfl⟩
theorem cbetween_any (r lo hi : Int) (w : World) :
    Calls Tryd.prog 32 #[.int .i32 r, .int .i32 lo, .int .i32 hi] w fun e w' => e = .returned (.bool (betw r lo hi)) ∧ w = w' := by
  rcases (show r < lo ∨ (lo ≤ r ∧ hi < r) ∨ (lo ≤ r ∧ r ≤ hi) by omega) with h | ⟨h, h2⟩ | ⟨h, h2⟩
  · have e : betw r lo hi = false := by simp only [betw]; exact decide_eq_false (by omega)
    rw [e]; clear e
    have d0 : decide (lo ≤ r) = false := decide_eq_false (by omega)
    clear h
    go_enter Tryd.func32, Tryd.ntmps32
    go_wp2
    go_ret
    first | exact ⟨rfl, rfl⟩ | exact ⟨by simp; omega, rfl⟩
  · have e : betw r lo hi = false := by simp only [betw]; exact decide_eq_false (by omega)
    rw [e]; clear e
    have d0 : decide (lo ≤ r) = true := decide_eq_true h
    have d1 : decide (r ≤ hi) = false := decide_eq_false (by omega)
    clear h h2
    go_enter Tryd.func32, Tryd.ntmps32
    go_wp2
    go_ret
    first | exact ⟨rfl, rfl⟩ | exact ⟨by simp; omega, rfl⟩
  · have e : betw r lo hi = true := by simp only [betw]; exact decide_eq_true (by omega)
    rw [e]; clear e
    have d0 : decide (lo ≤ r) = true := decide_eq_true h
    have d1 : decide (r ≤ hi) = true := decide_eq_true h2
    clear h h2
    go_enter Tryd.func32, Tryd.ntmps32
    go_wp2
    go_ret
    first | exact ⟨rfl, rfl⟩ | exact ⟨by simp; omega, rfl⟩
theorem cspace_any (c : Nat) (hc : c < 256) (w : World) :
    Calls Tryd.prog 9 #[.int .u8 c] w fun e w' => e = .returned (.bool (spaceN c)) ∧ w = w' := by
  by_cases h0 : c = 9
  · subst h0
    have e : spaceN 9 = true := by decide
    rw [e]; clear e
    go_enter Tryd.func9, Tryd.ntmps9
    go_wp2
    go_ret
    first | exact ⟨rfl, rfl⟩ | exact ⟨by simp; omega, rfl⟩
  have t0 : ((c : Int) == 9) = false := beq_eq_false_iff_ne.2 (by omega)
  by_cases h1 : c = 10
  · subst h1
    have e : spaceN 10 = true := by decide
    rw [e]; clear e
    go_enter Tryd.func9, Tryd.ntmps9
    go_wp2
    go_ret
    first | exact ⟨rfl, rfl⟩ | exact ⟨by simp; omega, rfl⟩
  have t1 : ((c : Int) == 10) = false := beq_eq_false_iff_ne.2 (by omega)
  by_cases h2 : c = 12
  · subst h2
    have e : spaceN 12 = true := by decide
    rw [e]; clear e
    go_enter Tryd.func9, Tryd.ntmps9
    go_wp2
    go_ret
    first | exact ⟨rfl, rfl⟩ | exact ⟨by simp; omega, rfl⟩
  have t2 : ((c : Int) == 12) = false := beq_eq_false_iff_ne.2 (by omega)
  by_cases h3 : c = 13
  · subst h3
    have e : spaceN 13 = true := by decide
    rw [e]; clear e
    go_enter Tryd.func9, Tryd.ntmps9
    go_wp2
    go_ret
    first | exact ⟨rfl, rfl⟩ | exact ⟨by simp; omega, rfl⟩
  have t3 : ((c : Int) == 13) = false := beq_eq_false_iff_ne.2 (by omega)
  by_cases h4 : c = 32
  · subst h4
    have e : spaceN 32 = true := by decide
    rw [e]; clear e
    go_enter Tryd.func9, Tryd.ntmps9
    go_wp2
    go_ret
    first | exact ⟨rfl, rfl⟩ | exact ⟨by simp; omega, rfl⟩
  have t4 : ((c : Int) == 32) = false := beq_eq_false_iff_ne.2 (by omega)
  have e : spaceN c = false := by simp [spaceN, h0, h1, h2, h3, h4]
  rw [e]; clear e h0 h1 h2 h3 h4
  go_enter Tryd.func9, Tryd.ntmps9
  go_wp2
  go_ret
  first | exact ⟨rfl, rfl⟩ | exact ⟨by simp; omega, rfl⟩
theorem cletter_any (c : Nat) (hc : c < 256) (w : World) :
    Calls Tryd.prog 11 #[.int .u8 c] w fun e w' => e = .returned (.bool (letterN c)) ∧ w = w' := by
  have HG := cgreat_any c hc w
  by_cases h1 : 65 ≤ c ∧ c ≤ 90
  · have e : letterN c = true := by simp [letterN, h1]
    rw [e]; clear e
    rw [show greatN c = true from decide_eq_true h1] at HG
    have HG := hid HG
    clear h1
    go_enter Tryd.func11, Tryd.ntmps11
    go_wp2_with (go_at_call 31; refine HG.out.mono ?_; rintro e w' ⟨rfl, rfl⟩)
    go_ret
    first | exact ⟨rfl, rfl⟩ | exact ⟨by simp; omega, rfl⟩
  by_cases h2 : 97 ≤ c ∧ c ≤ 122
  · have e : letterN c = true := by simp only [letterN]; exact decide_eq_true (by omega)
    rw [e]; clear e
    rw [show greatN c = false from decide_eq_false h1] at HG
    have HG := hid HG
    have a1 : 97 ≤ c := by omega
    have a2 : c ≤ 122 := by omega
    clear h1 h2
    go_enter Tryd.func11, Tryd.ntmps11
    go_wp2_with (go_at_call 31; refine HG.out.mono ?_; rintro e w' ⟨rfl, rfl⟩)
    go_ret
    first | exact ⟨rfl, rfl⟩ | exact ⟨by simp; omega, rfl⟩
  by_cases h2 : c < 97
  · have e : letterN c = false := by simp only [letterN]; exact decide_eq_false (by omega)
    rw [e]; clear e
    rw [show greatN c = false from decide_eq_false h1] at HG
    have HG := hid HG
    have a1 : c < 97 := by omega
    clear h1 h2
    go_enter Tryd.func11, Tryd.ntmps11
    go_wp2_with (go_at_call 31; refine HG.out.mono ?_; rintro e w' ⟨rfl, rfl⟩)
    go_ret
    first | exact ⟨rfl, rfl⟩ | exact ⟨by simp; omega, rfl⟩
  by_cases h2 : 122 < c
  · have e : letterN c = false := by simp only [letterN]; exact decide_eq_false (by omega)
    rw [e]; clear e
    rw [show greatN c = false from decide_eq_false h1] at HG
    have HG := hid HG
    have a1 : 97 ≤ c := by omega
    have a2 : 122 < c := by omega
    clear h1 h2
    go_enter Tryd.func11, Tryd.ntmps11
    go_wp2_with (go_at_call 31; refine HG.out.mono ?_; rintro e w' ⟨rfl, rfl⟩)
    go_ret
    first | exact ⟨rfl, rfl⟩ | exact ⟨by simp; omega, rfl⟩
  omega
theorem chex_any (c : Nat) (hc : c < 256) (w : World) :
    Calls Tryd.prog 15 #[.int .u8 c] w fun e w' => e = .returned (.int .i64 (hexN c)) ∧ w = w' := by
  have HD := cdigit_any c hc w
  rcases (show (c < 48) ∨ (48 ≤ c ∧ c ≤ 57) ∨ (57 < c ∧ c < 65) ∨ (65 ≤ c ∧ c ≤ 70) ∨ (70 < c ∧ c < 97) ∨ (97 ≤ c ∧ c ≤ 102) ∨ (102 < c) by omega) with h | ⟨h, h'⟩ | ⟨h, h'⟩ | ⟨h, h'⟩ | ⟨h, h'⟩ | ⟨h, h'⟩ | h
  · have e : hexN c = -1 := by unfold hexN; repeat' split <;> omega
    rw [e]; clear e
    rw [show digitN c = false from decide_eq_false (by omega)] at HD
    have HD := hid HD
    have f0 : c < 65 := by omega
    have f1 : c < 97 := by omega
    go_enter Tryd.func15, Tryd.ntmps15
    go_wp2_with (go_at_call 13; refine HD.out.mono ?_; rintro e w' ⟨rfl, rfl⟩)
    go_ret
    first | exact ⟨rfl, rfl⟩ | exact ⟨by simp; omega, rfl⟩ | exact ⟨congrArg (fun x => Ending.returned (.int .i64 x)) (by omega), rfl⟩
  · have e : hexN c = (c : Int) - 48 := by unfold hexN; repeat' split <;> omega
    rw [e]; clear e
    rw [show digitN c = true from decide_eq_true (by omega)] at HD
    have HD := hid HD
    have f0 : c < 65 := by omega
    have f1 : c < 97 := by omega
    have u : (0 : Int) ≤ (c : Int) - 48 := by omega
    have u2 : (c : Int) - 48 < 256 := by omega
    go_enter Tryd.func15, Tryd.ntmps15
    go_wp2_with (go_at_call 13; refine HD.out.mono ?_; rintro e w' ⟨rfl, rfl⟩)
    go_ret
    first | exact ⟨rfl, rfl⟩ | exact ⟨by simp; omega, rfl⟩ | exact ⟨congrArg (fun x => Ending.returned (.int .i64 x)) (by omega), rfl⟩
  · have e : hexN c = -1 := by unfold hexN; repeat' split <;> omega
    rw [e]; clear e
    rw [show digitN c = false from decide_eq_false (by omega)] at HD
    have HD := hid HD
    have f0 : c < 65 := by omega
    have f1 : c < 97 := by omega
    go_enter Tryd.func15, Tryd.ntmps15
    go_wp2_with (go_at_call 13; refine HD.out.mono ?_; rintro e w' ⟨rfl, rfl⟩)
    go_ret
    first | exact ⟨rfl, rfl⟩ | exact ⟨by simp; omega, rfl⟩ | exact ⟨congrArg (fun x => Ending.returned (.int .i64 x)) (by omega), rfl⟩
  · have e : hexN c = (c : Int) - 65 + 10 := by unfold hexN; repeat' split <;> omega
    rw [e]; clear e
    have f0 : 65 ≤ c := by omega
    have f1 : c ≤ 70 := by omega
    have u : (0 : Int) ≤ (c : Int) + 32 := by omega
    have u2 : (c : Int) + 32 < 256 := by omega
    have u3 : (0 : Int) ≤ (c : Int) + 32 - 97 := by omega
    have u4 : (c : Int) + 32 - 97 < 256 := by omega
    clear HD
    go_enter Tryd.func15, Tryd.ntmps15
    go_wp2
    go_ret
    first | exact ⟨rfl, rfl⟩ | exact ⟨by simp; omega, rfl⟩ | exact ⟨congrArg (fun x => Ending.returned (.int .i64 x)) (by omega), rfl⟩
  · have e : hexN c = -1 := by unfold hexN; repeat' split <;> omega
    rw [e]; clear e
    rw [show digitN c = false from decide_eq_false (by omega)] at HD
    have HD := hid HD
    have f0 : 65 ≤ c := by omega
    have f1 : 70 < c := by omega
    have f2 : c < 97 := by omega
    go_enter Tryd.func15, Tryd.ntmps15
    go_wp2_with (go_at_call 13; refine HD.out.mono ?_; rintro e w' ⟨rfl, rfl⟩)
    go_ret
    first | exact ⟨rfl, rfl⟩ | exact ⟨by simp; omega, rfl⟩ | exact ⟨congrArg (fun x => Ending.returned (.int .i64 x)) (by omega), rfl⟩
  · have e : hexN c = (c : Int) - 97 + 10 := by unfold hexN; repeat' split <;> omega
    rw [e]; clear e
    have f0 : 65 ≤ c := by omega
    have f1 : 70 < c := by omega
    have f2 : 97 ≤ c := by omega
    have f3 : c ≤ 102 := by omega
    have u : (0 : Int) ≤ (c : Int) - 97 := by omega
    have u2 : (c : Int) - 97 < 256 := by omega
    clear HD
    go_enter Tryd.func15, Tryd.ntmps15
    go_wp2
    go_ret
    first | exact ⟨rfl, rfl⟩ | exact ⟨by simp; omega, rfl⟩ | exact ⟨congrArg (fun x => Ending.returned (.int .i64 x)) (by omega), rfl⟩
  · have e : hexN c = -1 := by unfold hexN; repeat' split <;> omega
    rw [e]; clear e
    rw [show digitN c = false from decide_eq_false (by omega)] at HD
    have HD := hid HD
    have f0 : 65 ≤ c := by omega
    have f1 : 70 < c := by omega
    have f2 : 97 ≤ c := by omega
    have f3 : 102 < c := by omega
    go_enter Tryd.func15, Tryd.ntmps15
    go_wp2_with (go_at_call 13; refine HD.out.mono ?_; rintro e w' ⟨rfl, rfl⟩)
    go_ret
    first | exact ⟨rfl, rfl⟩ | exact ⟨by simp; omega, rfl⟩ | exact ⟨congrArg (fun x => Ending.returned (.int .i64 x)) (by omega), rfl⟩
theorem cblank_any (r : Int) (w : World) :
    Calls Tryd.prog 17 #[.int .i32 r] w fun e w' => e = .returned (.bool (blankR r)) ∧ w = w' := by
  by_cases h0 : r = 9
  · subst h0
    have e : blankR 9 = true := by decide
    rw [e]; clear e
    go_enter Tryd.func17, Tryd.ntmps17
    go_wp2
    go_ret
    first | exact ⟨rfl, rfl⟩ | exact ⟨by simp; omega, rfl⟩
  have t0 : ((r : Int) == 9) = false := beq_eq_false_iff_ne.2 (by omega)
  by_cases h1 : r = 10
  · subst h1
    have e : blankR 10 = true := by decide
    rw [e]; clear e
    go_enter Tryd.func17, Tryd.ntmps17
    go_wp2
    go_ret
    first | exact ⟨rfl, rfl⟩ | exact ⟨by simp; omega, rfl⟩
  have t1 : ((r : Int) == 10) = false := beq_eq_false_iff_ne.2 (by omega)
  by_cases h2 : r = 12
  · subst h2
    have e : blankR 12 = true := by decide
    rw [e]; clear e
    go_enter Tryd.func17, Tryd.ntmps17
    go_wp2
    go_ret
    first | exact ⟨rfl, rfl⟩ | exact ⟨by simp; omega, rfl⟩
  have t2 : ((r : Int) == 12) = false := beq_eq_false_iff_ne.2 (by omega)
  by_cases h3 : r = 13
  · subst h3
    have e : blankR 13 = true := by decide
    rw [e]; clear e
    go_enter Tryd.func17, Tryd.ntmps17
    go_wp2
    go_ret
    first | exact ⟨rfl, rfl⟩ | exact ⟨by simp; omega, rfl⟩
  have t3 : ((r : Int) == 13) = false := beq_eq_false_iff_ne.2 (by omega)
  by_cases h4 : r = 32
  · subst h4
    have e : blankR 32 = true := by decide
    rw [e]; clear e
    go_enter Tryd.func17, Tryd.ntmps17
    go_wp2
    go_ret
    first | exact ⟨rfl, rfl⟩ | exact ⟨by simp; omega, rfl⟩
  have t4 : ((r : Int) == 32) = false := beq_eq_false_iff_ne.2 (by omega)
  by_cases h5 : r = 160
  · subst h5
    have e : blankR 160 = true := by decide
    rw [e]; clear e
    go_enter Tryd.func17, Tryd.ntmps17
    go_wp2
    go_ret
    first | exact ⟨rfl, rfl⟩ | exact ⟨by simp; omega, rfl⟩
  have t5 : ((r : Int) == 160) = false := beq_eq_false_iff_ne.2 (by omega)
  by_cases h6 : r = 5760
  · subst h6
    have e : blankR 5760 = true := by decide
    rw [e]; clear e
    go_enter Tryd.func17, Tryd.ntmps17
    go_wp2
    go_ret
    first | exact ⟨rfl, rfl⟩ | exact ⟨by simp; omega, rfl⟩
  have t6 : ((r : Int) == 5760) = false := beq_eq_false_iff_ne.2 (by omega)
  by_cases h7 : r = 8239
  · subst h7
    have e : blankR 8239 = true := by decide
    rw [e]; clear e
    go_enter Tryd.func17, Tryd.ntmps17
    go_wp2
    go_ret
    first | exact ⟨rfl, rfl⟩ | exact ⟨by simp; omega, rfl⟩
  have t7 : ((r : Int) == 8239) = false := beq_eq_false_iff_ne.2 (by omega)
  by_cases h8 : r = 8287
  · subst h8
    have e : blankR 8287 = true := by decide
    rw [e]; clear e
    go_enter Tryd.func17, Tryd.ntmps17
    go_wp2
    go_ret
    first | exact ⟨rfl, rfl⟩ | exact ⟨by simp; omega, rfl⟩
  have t8 : ((r : Int) == 8287) = false := beq_eq_false_iff_ne.2 (by omega)
  by_cases h9 : r = 12288
  · subst h9
    have e : blankR 12288 = true := by decide
    rw [e]; clear e
    go_enter Tryd.func17, Tryd.ntmps17
    go_wp2
    go_ret
    first | exact ⟨rfl, rfl⟩ | exact ⟨by simp; omega, rfl⟩
  have t9 : ((r : Int) == 12288) = false := beq_eq_false_iff_ne.2 (by omega)
  have e : blankR r = betw r 8192 8202 := by unfold blankR betw; exact decide_eq_decide.2 (by omega)
  rw [e]; clear e h0 h1 h2 h3 h4 h5 h6 h7 h8 h9
  have HB := hid (cbetween_any r 8192 8202 w)
  generalize betw r 8192 8202 = q at *
  go_enter Tryd.func17, Tryd.ntmps17
  go_wp2_with (go_at_call 32; refine HB.out.mono ?_; rintro e w' ⟨rfl, rfl⟩)
  go_ret
  first | exact ⟨rfl, rfl⟩ | exact ⟨by simp; omega, rfl⟩
end Go.Proofs.YtgnoiifakipliaaDoor
