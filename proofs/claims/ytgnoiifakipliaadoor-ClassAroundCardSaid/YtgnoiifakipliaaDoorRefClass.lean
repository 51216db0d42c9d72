/- Walks over the reference of layer 2: what a byte is, what a blank is. -/
import Derived.Test.YtgnoiifakipliaaDoorBase
import Derived.Test.YtgnoiifakipliaaDoorClass
namespace Go.Proofs.YtgnoiifakipliaaDoor
open Go.RowKit Go.Lib
set_option maxRecDepth 100000
set_option linter.unusedVariables false

def spaceN (c : Nat) : Bool := decide (c = 9 ∨ c = 10 ∨ c = 12 ∨ c = 13 ∨ c = 32)
def letterN (c : Nat) : Bool := decide ((97 ≤ c ∧ c ≤ 122) ∨ (65 ≤ c ∧ c ≤ 90))
def digitN (c : Nat) : Bool := decide (48 ≤ c ∧ c ≤ 57)
def hexN (c : Nat) : Int := if 48 ≤ c ∧ c ≤ 57 then c - 48 else if 97 ≤ c ∧ c ≤ 102 then c - 97 + 10 else if 65 ≤ c ∧ c ≤ 70 then c - 65 + 10 else -1
def blankR (r : Int) : Bool := decide (r = 9 ∨ r = 10 ∨ r = 12 ∨ r = 13 ∨ r = 32 ∨ r = 160 ∨ r = 5760 ∨ (8192 ≤ r ∧ r ≤ 8202) ∨ r = 8239 ∨ r = 8287 ∨ r = 12288)
theorem rspace_any (c : Nat) (hc : c < 256) (w : World) :
    Calls Tryd.prog 10 #[.int .u8 c] w fun e w' => e = .returned (.bool (spaceN c)) ∧ w = w' := by
  by_cases h0 : c = 9
  · subst h0
    have e : spaceN 9 = true := by decide
    rw [e]; clear e
    go_enter Tryd.func10, Tryd.ntmps10
    go_wp2
    go_ret
    first | exact ⟨rfl, rfl⟩ | exact ⟨by simp; omega, rfl⟩
  have t0 : ((c : Int) == 9) = false := beq_eq_false_iff_ne.2 (by omega)
  by_cases h1 : c = 10
  · subst h1
    have e : spaceN 10 = true := by decide
    rw [e]; clear e
    go_enter Tryd.func10, Tryd.ntmps10
    go_wp2
    go_ret
    first | exact ⟨rfl, rfl⟩ | exact ⟨by simp; omega, rfl⟩
  have t1 : ((c : Int) == 10) = false := beq_eq_false_iff_ne.2 (by omega)
  by_cases h2 : c = 12
  · subst h2
    have e : spaceN 12 = true := by decide
    rw [e]; clear e
    go_enter Tryd.func10, Tryd.ntmps10
    go_wp2
    go_ret
    first | exact ⟨rfl, rfl⟩ | exact ⟨by simp; omega, rfl⟩
  have t2 : ((c : Int) == 12) = false := beq_eq_false_iff_ne.2 (by omega)
  by_cases h3 : c = 13
  · subst h3
    have e : spaceN 13 = true := by decide
    rw [e]; clear e
    go_enter Tryd.func10, Tryd.ntmps10
    go_wp2
    go_ret
    first | exact ⟨rfl, rfl⟩ | exact ⟨by simp; omega, rfl⟩
  have t3 : ((c : Int) == 13) = false := beq_eq_false_iff_ne.2 (by omega)
  by_cases h4 : c = 32
  · subst h4
    have e : spaceN 32 = true := by decide
    rw [e]; clear e
    go_enter Tryd.func10, Tryd.ntmps10
    go_wp2
    go_ret
    first | exact ⟨rfl, rfl⟩ | exact ⟨by simp; omega, rfl⟩
  have t4 : ((c : Int) == 32) = false := beq_eq_false_iff_ne.2 (by omega)
  have e : spaceN c = false := by simp [spaceN, h0, h1, h2, h3, h4]
  rw [e]; clear e h0 h1 h2 h3 h4
  go_enter Tryd.func10, Tryd.ntmps10
  go_wp2
  go_ret
  first | exact ⟨rfl, rfl⟩ | exact ⟨by simp; omega, rfl⟩
theorem rletter_any (c : Nat) (hc : c < 256) (w : World) :
    Calls Tryd.prog 12 #[.int .u8 c] w fun e w' => e = .returned (.bool (letterN c)) ∧ w = w' := by
  by_cases h1 : 97 ≤ c ∧ c ≤ 122
  · have e : letterN c = true := by simp [letterN, h1]
    rw [e]; clear e
    obtain ⟨a1, a2⟩ := h1
    go_enter Tryd.func12, Tryd.ntmps12
    go_wp2
    go_ret
    first | exact ⟨rfl, rfl⟩ | exact ⟨by simp; omega, rfl⟩
  by_cases h2 : 65 ≤ c ∧ c ≤ 90
  · have e : letterN c = true := by simp [letterN, h2]
    rw [e]; clear e
    obtain ⟨a1, a2⟩ := h2
    have a3 : c < 97 := by omega
    clear h1
    go_enter Tryd.func12, Tryd.ntmps12
    go_wp2
    go_ret
    first | exact ⟨rfl, rfl⟩ | exact ⟨by simp; omega, rfl⟩
  have e : letterN c = false := by simp only [letterN]; exact decide_eq_false (by omega)
  rw [e]; clear e
  rcases (show c < 65 ∨ (90 < c ∧ c < 97) ∨ 122 < c by omega) with h6 | ⟨h6, h7⟩ | h6
  · clear h1 h2
    have h8 : c < 97 := by omega
    have h9 : c < 97 := by omega
    go_enter Tryd.func12, Tryd.ntmps12
    go_wp2
    go_ret
    first | exact ⟨rfl, rfl⟩ | exact ⟨by simp; omega, rfl⟩
  · clear h1 h2
    have h8 : 65 ≤ c := by omega
    go_enter Tryd.func12, Tryd.ntmps12
    go_wp2
    go_ret
    first | exact ⟨rfl, rfl⟩ | exact ⟨by simp; omega, rfl⟩
  · clear h1 h2
    have h8 : 97 ≤ c := by omega
    have h9 : 65 ≤ c := by omega
    have h7 : 90 < c := by omega
    go_enter Tryd.func12, Tryd.ntmps12
    go_wp2
    go_ret
    first | exact ⟨rfl, rfl⟩ | exact ⟨by simp; omega, rfl⟩
theorem rdigit_any (c : Nat) (hc : c < 256) (w : World) :
    Calls Tryd.prog 14 #[.int .u8 c] w fun e w' => e = .returned (.bool (digitN c)) ∧ w = w' := by
  rcases (show c < 48 ∨ 57 < c ∨ (48 ≤ c ∧ c ≤ 57) by omega) with h | h | ⟨h, h2⟩
  · have e : digitN c = false := by simp only [digitN]; exact decide_eq_false (by omega)
    rw [e]; clear e
    go_enter Tryd.func14, Tryd.ntmps14
    go_wp2
    go_ret
    first | exact ⟨rfl, rfl⟩ | exact ⟨by simp; omega, rfl⟩
  · have e : digitN c = false := by simp only [digitN]; exact decide_eq_false (by omega)
    rw [e]; clear e
    have h2 : 48 ≤ c := by omega
    go_enter Tryd.func14, Tryd.ntmps14
    go_wp2
    go_ret
    first | exact ⟨rfl, rfl⟩ | exact ⟨by simp; omega, rfl⟩
  · have e : digitN c = true := by simp only [digitN]; exact decide_eq_true (by omega)
    rw [e]; clear e
    go_enter Tryd.func14, Tryd.ntmps14
    go_wp2
    go_ret
    first | exact ⟨rfl, rfl⟩ | exact ⟨by simp; omega, rfl⟩
theorem rhex_any (c : Nat) (hc : c < 256) (w : World) :
    Calls Tryd.prog 16 #[.int .u8 c] w fun e w' => e = .returned (.int .i64 (hexN c)) ∧ w = w' := by
  rcases (show (c < 48) ∨ (48 ≤ c ∧ c ≤ 57) ∨ (57 < c ∧ c < 65) ∨ (65 ≤ c ∧ c ≤ 70) ∨ (70 < c ∧ c < 97) ∨ (97 ≤ c ∧ c ≤ 102) ∨ (102 < c) by omega) with h | ⟨h, h'⟩ | ⟨h, h'⟩ | ⟨h, h'⟩ | ⟨h, h'⟩ | ⟨h, h'⟩ | h
  · have e : hexN c = -1 := by unfold hexN; repeat' split <;> omega
    rw [e]; clear e
    have f0a : c < 48 := by omega
    have f1a : c < 97 := by omega
    have f2a : c < 65 := by omega
    go_enter Tryd.func16, Tryd.ntmps16
    go_wp2
    go_ret
    first | exact ⟨rfl, rfl⟩ | exact ⟨by simp; omega, rfl⟩
  · have e : hexN c = (c : Int) - 48 := by unfold hexN; repeat' split <;> omega
    rw [e]; clear e
    have u : (0 : Int) ≤ (c : Int) - 48 := by omega
    have u2 : (c : Int) - 48 < 256 := by omega
    have f0a : 48 ≤ c := by omega
    have f0b : c ≤ 57 := by omega
    have f1a : c < 97 := by omega
    have f2a : c < 65 := by omega
    go_enter Tryd.func16, Tryd.ntmps16
    go_wp2
    go_ret
    first | exact ⟨rfl, rfl⟩ | exact ⟨by simp; omega, rfl⟩
  · have e : hexN c = -1 := by unfold hexN; repeat' split <;> omega
    rw [e]; clear e
    have f0a : 48 ≤ c := by omega
    have f0b : 57 < c := by omega
    have f1a : c < 97 := by omega
    have f2a : c < 65 := by omega
    go_enter Tryd.func16, Tryd.ntmps16
    go_wp2
    go_ret
    first | exact ⟨rfl, rfl⟩ | exact ⟨by simp; omega, rfl⟩
  · have e : hexN c = (c : Int) - 65 + 10 := by unfold hexN; repeat' split <;> omega
    rw [e]; clear e
    have u : (0 : Int) ≤ (c : Int) - 65 := by omega
    have u2 : (c : Int) - 65 < 256 := by omega
    have f0a : 48 ≤ c := by omega
    have f0b : 57 < c := by omega
    have f1a : c < 97 := by omega
    have f2a : 65 ≤ c := by omega
    have f2b : c ≤ 70 := by omega
    go_enter Tryd.func16, Tryd.ntmps16
    go_wp2
    go_ret
    first | exact ⟨rfl, rfl⟩ | exact ⟨by simp; omega, rfl⟩
  · have e : hexN c = -1 := by unfold hexN; repeat' split <;> omega
    rw [e]; clear e
    have f0a : 48 ≤ c := by omega
    have f0b : 57 < c := by omega
    have f1a : c < 97 := by omega
    have f2a : 65 ≤ c := by omega
    have f2b : 70 < c := by omega
    go_enter Tryd.func16, Tryd.ntmps16
    go_wp2
    go_ret
    first | exact ⟨rfl, rfl⟩ | exact ⟨by simp; omega, rfl⟩
  · have e : hexN c = (c : Int) - 97 + 10 := by unfold hexN; repeat' split <;> omega
    rw [e]; clear e
    have u : (0 : Int) ≤ (c : Int) - 97 := by omega
    have u2 : (c : Int) - 97 < 256 := by omega
    have f0a : 48 ≤ c := by omega
    have f0b : 57 < c := by omega
    have f1a : 97 ≤ c := by omega
    have f1b : c ≤ 102 := by omega
    have f2a : 65 ≤ c := by omega
    have f2b : 70 < c := by omega
    go_enter Tryd.func16, Tryd.ntmps16
    go_wp2
    go_ret
    first | exact ⟨rfl, rfl⟩ | exact ⟨by simp; omega, rfl⟩
  · have e : hexN c = -1 := by unfold hexN; repeat' split <;> omega
    rw [e]; clear e
    have f0a : 48 ≤ c := by omega
    have f0b : 57 < c := by omega
    have f1a : 97 ≤ c := by omega
    have f1b : 102 < c := by omega
    have f2a : 65 ≤ c := by omega
    have f2b : 70 < c := by omega
    go_enter Tryd.func16, Tryd.ntmps16
    go_wp2
    go_ret
    first | exact ⟨rfl, rfl⟩ | exact ⟨by simp; omega, rfl⟩
theorem rblank_any (r : Int) (w : World) :
    Calls Tryd.prog 18 #[.int .i32 r] w fun e w' => e = .returned (.bool (blankR r)) ∧ w = w' := by
  by_cases h0 : r = 9
  · subst h0
    have e : blankR 9 = true := by decide
    rw [e]; clear e
    go_enter Tryd.func18, Tryd.ntmps18
    go_wp2
    go_ret
    first | exact ⟨rfl, rfl⟩ | exact ⟨by simp; omega, rfl⟩
  have t0 : (r == 9) = false := beq_eq_false_iff_ne.2 h0
  by_cases h1 : r = 10
  · subst h1
    have e : blankR 10 = true := by decide
    rw [e]; clear e
    go_enter Tryd.func18, Tryd.ntmps18
    go_wp2
    go_ret
    first | exact ⟨rfl, rfl⟩ | exact ⟨by simp; omega, rfl⟩
  have t1 : (r == 10) = false := beq_eq_false_iff_ne.2 h1
  by_cases h2 : r = 12
  · subst h2
    have e : blankR 12 = true := by decide
    rw [e]; clear e
    go_enter Tryd.func18, Tryd.ntmps18
    go_wp2
    go_ret
    first | exact ⟨rfl, rfl⟩ | exact ⟨by simp; omega, rfl⟩
  have t2 : (r == 12) = false := beq_eq_false_iff_ne.2 h2
  by_cases h3 : r = 13
  · subst h3
    have e : blankR 13 = true := by decide
    rw [e]; clear e
    go_enter Tryd.func18, Tryd.ntmps18
    go_wp2
    go_ret
    first | exact ⟨rfl, rfl⟩ | exact ⟨by simp; omega, rfl⟩
  have t3 : (r == 13) = false := beq_eq_false_iff_ne.2 h3
  by_cases h4 : r = 32
  · subst h4
    have e : blankR 32 = true := by decide
    rw [e]; clear e
    go_enter Tryd.func18, Tryd.ntmps18
    go_wp2
    go_ret
    first | exact ⟨rfl, rfl⟩ | exact ⟨by simp; omega, rfl⟩
  have t4 : (r == 32) = false := beq_eq_false_iff_ne.2 h4
  by_cases h5 : r = 160
  · subst h5
    have e : blankR 160 = true := by decide
    rw [e]; clear e
    go_enter Tryd.func18, Tryd.ntmps18
    go_wp2
    go_ret
    first | exact ⟨rfl, rfl⟩ | exact ⟨by simp; omega, rfl⟩
  have t5 : (r == 160) = false := beq_eq_false_iff_ne.2 h5
  by_cases h6 : r = 5760
  · subst h6
    have e : blankR 5760 = true := by decide
    rw [e]; clear e
    go_enter Tryd.func18, Tryd.ntmps18
    go_wp2
    go_ret
    first | exact ⟨rfl, rfl⟩ | exact ⟨by simp; omega, rfl⟩
  have t6 : (r == 5760) = false := beq_eq_false_iff_ne.2 h6
  by_cases hr : 8192 ≤ r ∧ r ≤ 8202
  · have e : blankR r = true := by simp [blankR, hr]
    rw [e]; clear e h0 h1 h2 h3 h4 h5 h6
    obtain ⟨a1, a2⟩ := hr
    go_enter Tryd.func18, Tryd.ntmps18
    go_wp2
    go_ret
    first | exact ⟨rfl, rfl⟩ | exact ⟨by simp; omega, rfl⟩
  have hq : r < 8192 ∨ (8192 ≤ r ∧ 8202 < r) := by omega
  by_cases g0 : r = 8239
  · subst g0
    have e : blankR 8239 = true := by decide
    rw [e]; clear e
    go_enter Tryd.func18, Tryd.ntmps18
    go_wp2
    go_ret
    first | exact ⟨rfl, rfl⟩ | exact ⟨by simp; omega, rfl⟩
  have s0 : (r == 8239) = false := beq_eq_false_iff_ne.2 g0
  by_cases g1 : r = 8287
  · subst g1
    have e : blankR 8287 = true := by decide
    rw [e]; clear e
    go_enter Tryd.func18, Tryd.ntmps18
    go_wp2
    go_ret
    first | exact ⟨rfl, rfl⟩ | exact ⟨by simp; omega, rfl⟩
  have s1 : (r == 8287) = false := beq_eq_false_iff_ne.2 g1
  by_cases g2 : r = 12288
  · subst g2
    have e : blankR 12288 = true := by decide
    rw [e]; clear e
    go_enter Tryd.func18, Tryd.ntmps18
    go_wp2
    go_ret
    first | exact ⟨rfl, rfl⟩ | exact ⟨by simp; omega, rfl⟩
  have s2 : (r == 12288) = false := beq_eq_false_iff_ne.2 g2
  have e : blankR r = false := by simp only [blankR]; exact decide_eq_false (by omega)
  rw [e]; clear e h0 h1 h2 h3 h4 h5 h6 g0 g1 g2 hr
  rcases hq with hq | ⟨hq, hq2⟩
  · go_enter Tryd.func18, Tryd.ntmps18
    go_wp2
    go_ret
    first | exact ⟨rfl, rfl⟩ | exact ⟨by simp; omega, rfl⟩
  · go_enter Tryd.func18, Tryd.ntmps18
    go_wp2
    go_ret
    first | exact ⟨rfl, rfl⟩ | exact ⟨by simp; omega, rfl⟩
end Go.Proofs.YtgnoiifakipliaaDoor
