/- Walks over the reference of layer 9: whether markup begins; the token that is told, as a value with a list in memory. -/
import Derived.Test.YtgldgdopabmefaaGreatDoorTagV
import Derived.Test.YtgldgdopabmefaaGreatDoorRefTagP
import Derived.Test.YtgldgdopabmefaaGreatDoorRefNoteD
namespace Go.Proofs.YtgldgdopabmefaaGreatDoor
open Go.RowKit Go.Lib
set_option maxRecDepth 100000
set_option linter.unusedVariables false

theorem rmarkup_any (s : ByteArray) (k : Nat) (w : World) (hs : s.size ≤ 400000) (hk : k ≤ 1000000) :
    Calls Tryz.prog 20 #[.string s, .int .i64 k] w fun e w' => e = .returned (.bool (Lex.markB s.data.toList k)) ∧ w = w' := by
  have H1 := fun W => begins_any s k W (by omega) (by omega)
  have H2 := fun W => rnbegins_any s k W (by omega) (by omega)
  rw [begI_nat] at H1
  rw [decide_eq_true (show (0 : Int) ≤ (k : Int) by omega), Bool.true_and, show ((k : Int)).toNat = k by omega] at H2
  unfold Lex.markB
  cases h1 : Tag.begB s.data.toList k with
  | true =>
    rw [h1] at H1
    have H1 := hid H1
    rw [Bool.true_or]
    clear h1 H2
    go_enter Tryz.func20, Tryz.ntmps20
    go_wp2_with fail
    refine (H1.out _).mono ?_
    rintro e w1 ⟨rfl, rfl⟩
    go_wp2
    go_ret
    exact ⟨rfl, rfl⟩
  | false =>
    rw [h1] at H1
    have H1 := hid H1
    have H2 := hid H2
    rw [Bool.false_or]
    generalize Note.begB (s.data.toList.drop k) = z at *
    clear h1
    go_enter Tryz.func20, Tryz.ntmps20
    go_wp2_with fail
    refine (H1.out _).mono ?_
    rintro e w1 ⟨rfl, rfl⟩
    go_wp2_with fail
    refine (H2.out _).mono ?_
    rintro e w1 ⟨rfl, rfl⟩
    go_wp2
    go_ret
    exact ⟨rfl, rfl⟩
end Go.Proofs.YtgldgdopabmefaaGreatDoor
