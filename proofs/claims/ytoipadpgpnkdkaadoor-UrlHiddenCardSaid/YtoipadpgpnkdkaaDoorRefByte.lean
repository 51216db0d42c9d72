/- Walks over the reference of layer 2: letters, digits, hexadecimal digits. -/
import Derived.Test.YtoipadpgpnkdkaaDoorBase
namespace Go.Proofs.YtoipadpgpnkdkaaDoor
open Go.RowKit Go.Lib
set_option maxRecDepth 100000
set_option linter.unusedVariables false
def letterN (c : Nat) : Bool := decide ((97 ≤ c ∧ c ≤ 122) ∨ (65 ≤ c ∧ c ≤ 90))
def digitN (c : Nat) : Bool := decide (48 ≤ c ∧ c ≤ 57)
def hexN (c : Nat) : Int := if 48 ≤ c ∧ c ≤ 57 then c - 48 else if 97 ≤ c ∧ c ≤ 102 then c - 97 + 10 else if 65 ≤ c ∧ c ≤ 70 then c - 65 + 10 else -1
theorem rletter_any (c : Nat) (hc : c < 256) (w : World) :
    Calls Tryd.prog 29 #[.int .u8 c] w fun e w' => e = .returned (.bool (letterN c)) ∧ w = w' := by
  by_cases h1 : 97 ≤ c ∧ c ≤ 122
  · have e : letterN c = true := by simp [letterN, h1]
    rw [e]; clear e
    obtain ⟨a1, a2⟩ := h1
    go_enter Tryd.func29, Tryd.ntmps29
    go_wp2
    go_ret
    first | exact ⟨rfl, rfl⟩ | exact ⟨by simp; omega, rfl⟩
  by_cases h2 : 65 ≤ c ∧ c ≤ 90
  · have e : letterN c = true := by simp [letterN, h2]
    rw [e]; clear e
    obtain ⟨a1, a2⟩ := h2
    have a3 : c < 97 := by omega
    clear h1
    go_enter Tryd.func29, Tryd.ntmps29
    go_wp2
    go_ret
    first | exact ⟨rfl, rfl⟩ | exact ⟨by simp; omega, rfl⟩
  have e : letterN c = false := by simp only [letterN]; exact decide_eq_false (by omega)
  rw [e]; clear e
  rcases (show c < 65 ∨ (90 < c ∧ c < 97) ∨ 122 < c by omega) with h6 | ⟨h6, h7⟩ | h6
  · clear h1 h2
    have h8 : c < 97 := by omega
    have h9 : c < 97 := by omega
    go_enter Tryd.func29, Tryd.ntmps29
    go_wp2
    go_ret
    first | exact ⟨rfl, rfl⟩ | exact ⟨by simp; omega, rfl⟩
  · clear h1 h2
    have h8 : 65 ≤ c := by omega
    go_enter Tryd.func29, Tryd.ntmps29
    go_wp2
    go_ret
    first | exact ⟨rfl, rfl⟩ | exact ⟨by simp; omega, rfl⟩
  · clear h1 h2
    have h8 : 97 ≤ c := by omega
    have h9 : 65 ≤ c := by omega
    have h7 : 90 < c := by omega
    go_enter Tryd.func29, Tryd.ntmps29
    go_wp2
    go_ret
    first | exact ⟨rfl, rfl⟩ | exact ⟨by simp; omega, rfl⟩
theorem rdigit_any (c : Nat) (hc : c < 256) (w : World) :
    Calls Tryd.prog 30 #[.int .u8 c] w fun e w' => e = .returned (.bool (digitN c)) ∧ w = w' := by
  rcases (show c < 48 ∨ 57 < c ∨ (48 ≤ c ∧ c ≤ 57) by omega) with h | h | ⟨h, h2⟩
  · have e : digitN c = false := by simp only [digitN]; exact decide_eq_false (by omega)
    rw [e]; clear e
    go_enter Tryd.func30, Tryd.ntmps30
    go_wp2
    go_ret
    first | exact ⟨rfl, rfl⟩ | exact ⟨by simp; omega, rfl⟩
  · have e : digitN c = false := by simp only [digitN]; exact decide_eq_false (by omega)
    rw [e]; clear e
    have h2 : 48 ≤ c := by omega
    go_enter Tryd.func30, Tryd.ntmps30
    go_wp2
    go_ret
    first | exact ⟨rfl, rfl⟩ | exact ⟨by simp; omega, rfl⟩
  · have e : digitN c = true := by simp only [digitN]; exact decide_eq_true (by omega)
    rw [e]; clear e
    go_enter Tryd.func30, Tryd.ntmps30
    go_wp2
    go_ret
    first | exact ⟨rfl, rfl⟩ | exact ⟨by simp; omega, rfl⟩
theorem rhex_any (c : Nat) (hc : c < 256) (w : World) :
    Calls Tryd.prog 18 #[.int .u8 c] w fun e w' => e = .returned (.int .i64 (hexN c)) ∧ w = w' := by
  rcases (show (c < 48) ∨ (48 ≤ c ∧ c ≤ 57) ∨ (57 < c ∧ c < 65) ∨ (65 ≤ c ∧ c ≤ 70) ∨ (70 < c ∧ c < 97) ∨ (97 ≤ c ∧ c ≤ 102) ∨ (102 < c) by omega) with h | ⟨h, h'⟩ | ⟨h, h'⟩ | ⟨h, h'⟩ | ⟨h, h'⟩ | ⟨h, h'⟩ | h
  · have e : hexN c = -1 := by unfold hexN; repeat' split <;> omega
    rw [e]; clear e
    have f0a : c < 48 := by omega
    have f1a : c < 97 := by omega
    have f2a : c < 65 := by omega
    go_enter Tryd.func18, Tryd.ntmps18
    go_wp2
    go_ret
    first | exact ⟨rfl, rfl⟩ | exact ⟨by simp; omega, rfl⟩
  · have e : hexN c = (c : Int) - 48 := by unfold hexN; repeat' split <;> omega
    rw [e]; clear e
    have u : (0 : Int) ≤ (c : Int) - 48 := by omega
    have u2 : (c : Int) - 48 < 256 := by omega
    have f0a : 48 ≤ c := by omega
    have f0b : c ≤ 57 := by omega
    have f1a : c < 97 := by omega
    have f2a : c < 65 := by omega
    go_enter Tryd.func18, Tryd.ntmps18
    go_wp2
    go_ret
    first | exact ⟨rfl, rfl⟩ | exact ⟨by simp; omega, rfl⟩
  · have e : hexN c = -1 := by unfold hexN; repeat' split <;> omega
    rw [e]; clear e
    have f0a : 48 ≤ c := by omega
    have f0b : 57 < c := by omega
    have f1a : c < 97 := by omega
    have f2a : c < 65 := by omega
    go_enter Tryd.func18, Tryd.ntmps18
    go_wp2
    go_ret
    first | exact ⟨rfl, rfl⟩ | exact ⟨by simp; omega, rfl⟩
  · have e : hexN c = (c : Int) - 65 + 10 := by unfold hexN; repeat' split <;> omega
    rw [e]; clear e
    have u : (0 : Int) ≤ (c : Int) - 65 := by omega
    have u2 : (c : Int) - 65 < 256 := by omega
    have f0a : 48 ≤ c := by omega
    have f0b : 57 < c := by omega
    have f1a : c < 97 := by omega
    have f2a : 65 ≤ c := by omega
    have f2b : c ≤ 70 := by omega
    go_enter Tryd.func18, Tryd.ntmps18
    go_wp2
    go_ret
    first | exact ⟨rfl, rfl⟩ | exact ⟨by simp; omega, rfl⟩
  · have e : hexN c = -1 := by unfold hexN; repeat' split <;> omega
    rw [e]; clear e
    have f0a : 48 ≤ c := by omega
    have f0b : 57 < c := by omega
    have f1a : c < 97 := by omega
    have f2a : 65 ≤ c := by omega
    have f2b : 70 < c := by omega
    go_enter Tryd.func18, Tryd.ntmps18
    go_wp2
    go_ret
    first | exact ⟨rfl, rfl⟩ | exact ⟨by simp; omega, rfl⟩
  · have e : hexN c = (c : Int) - 97 + 10 := by unfold hexN; repeat' split <;> omega
    rw [e]; clear e
    have u : (0 : Int) ≤ (c : Int) - 97 := by omega
    have u2 : (c : Int) - 97 < 256 := by omega
    have f0a : 48 ≤ c := by omega
    have f0b : 57 < c := by omega
    have f1a : 97 ≤ c := by omega
    have f1b : c ≤ 102 := by omega
    have f2a : 65 ≤ c := by omega
    have f2b : 70 < c := by omega
    go_enter Tryd.func18, Tryd.ntmps18
    go_wp2
    go_ret
    first | exact ⟨rfl, rfl⟩ | exact ⟨by simp; omega, rfl⟩
  · have e : hexN c = -1 := by unfold hexN; repeat' split <;> omega
    rw [e]; clear e
    have f0a : 48 ≤ c := by omega
    have f0b : 57 < c := by omega
    have f1a : 97 ≤ c := by omega
    have f1b : 102 < c := by omega
    have f2a : 65 ≤ c := by omega
    have f2b : 70 < c := by omega
    go_enter Tryd.func18, Tryd.ntmps18
    go_wp2
    go_ret
    first | exact ⟨rfl, rfl⟩ | exact ⟨by simp; omega, rfl⟩
end Go.Proofs.YtoipadpgpnkdkaaDoor
