/- Walks: package class, Punct. -/
import Derived.Test.YtgnoiifakipliaaDoorCls
import Derived.Test.YtgnoiifakipliaaDoorRefPunct
namespace Go.Proofs.YtgnoiifakipliaaDoor
open Go.RowKit Go.Lib
set_option maxRecDepth 100000
set_option linter.unusedVariables false

/-- The package's table of marks lies as its text lays it. -/
def PunctTab (w : World) : Prop := ∀ j, j < 56 → w.cell? ⟨0, j, none⟩ = some (.int .i32 (punctL.getD j 0 : Nat))
theorem punct_sorted : ∀ i, i < 28 → ∀ j, j < 28 → i ≤ j → punctL.getD (2 * i) 0 ≤ punctL.getD (2 * j) 0 := by decide
theorem punctR_past {r : Int} {i : Nat} (hi : i < 28) (h : r < (punctL.getD (2 * i) 0 : Nat)) (hb : ∀ j, j < i → inPair r j = false) : punctR r = false := by
  apply punctR_no
  intro j hj
  by_cases hji : j < i
  · exact hb j hji
  · have := punct_sorted i hi j hj (by omega)
    unfold inPair
    exact decide_eq_false (by omega)

set_option maxHeartbeats 1000000 in
theorem cpunct_any (r : Int) (w : World) (hP : PunctTab w) :
    Calls Tryd.prog 19 #[.int .i32 r] w fun e w' => e = .returned (.bool (punctR r)) ∧ w = w' := by
  have HP := hid hP
  have HN := hid (@punctR_no r)
  have HY := hid (show ∀ j, j < 28 → inPair r j = true → punctR r = true from fun j => punctR_yes)
  have HQ := hid (show ∀ i, i < 28 → r < (punctL.getD (2 * i) 0 : Nat) → (∀ j, j < i → inPair r j = false) → punctR r = false from fun i => punctR_past)
  have hin := hid (show ∀ j, inPair r j = decide ((punctL.getD (2 * j) 0 : Int) ≤ r ∧ r ≤ (punctL.getD (2 * j + 1) 0 : Int)) from fun _ => rfl)
  clear hP
  go_enter Tryd.func19, Tryd.ntmps19
  go_wp2
  go_loop [3] (fun iv => ∃ i : Nat, iv = .int .i64 i ∧ i ≤ 28 ∧ Hid (∀ j, j < i → inPair r j = false)) (fun iv => 28 - (RowKit.intOf iv).toNat)
  case atStart => exact ⟨0, rfl, by omega, hid (fun j hj => absurd hj (Nat.not_lt_zero _))⟩
  case round =>
    obtain ⟨i, rfl, hi, hI⟩ := hrel
    by_cases hlt : i < 28
    · have hinq := hin.out i
      have c0 := HP.out (2 * i) (by omega)
      have c1 := HP.out (2 * i + 1) (by omega)
      have hpast := HQ.out i hlt
      obtain ⟨a, ha⟩ : ∃ a : Nat, punctL.getD (2 * i) 0 = a := ⟨_, rfl⟩
      obtain ⟨b, hb⟩ : ∃ b : Nat, punctL.getD (2 * i + 1) 0 = b := ⟨_, rfl⟩
      rw [ha] at c0 hinq hpast
      rw [hb] at c1 hinq
      rw [Nat.mul_comm] at c0 c1
      clear ha hb
      by_cases h1 : (a : Int) ≤ r
      · have d0 : decide ((a : Int) ≤ r) = true := decide_eq_true h1
        by_cases h2 : r ≤ (b : Int)
        · have HR := hid (HY.out i hlt (by rw [hinq]; exact decide_eq_true ⟨h1, h2⟩))
          have d1 : decide (r ≤ (b : Int)) = true := decide_eq_true h2
          clear hinq hpast h1 h2
          go_wp2
          go_ret
          exact ⟨by rw [HR.out]; rfl, rfl⟩
        · have HI2 : Hid (∀ j, j < i + 1 → inPair r j = false) := hid fun j hj => by
            by_cases hj2 : j < i
            · exact hI.out j hj2
            · obtain rfl : j = i := by omega
              rw [hinq]; exact decide_eq_false (fun h => h2 h.2)
          have d1 : decide (r ≤ (b : Int)) = false := decide_eq_false h2
          clear hinq hpast h1 h2
          go_wp2
          go_round
          case rel => exact ⟨i + 1, by go_num, by omega, HI2⟩
          case measure => simp [RowKit.intOf]; omega
      · have HR := hid (hpast (by omega) hI.out)
        have d0 : decide ((a : Int) ≤ r) = false := decide_eq_false h1
        clear hinq hpast h1
        go_wp2
        go_ret
        exact ⟨by rw [HR.out]; rfl, rfl⟩
    · have HR := hid (HN.out (fun j hj => hI.out j (by omega)))
      go_wp2
      go_ret
      exact ⟨by rw [HR.out]; rfl, rfl⟩
end Go.Proofs.YtgnoiifakipliaaDoor
