/- The walk of the statement OpenKinds. -/
import Derived.Test.YtolbohmalgklmaaFrameO
namespace Go.Proofs.Ytolbohmalgklmaa.openKinds
open Go.ChangeShapes Go.WideShapes Go.ChangeAt Go.RowKit Go.Lib
open Go.ChangeMaps (open_string shut_string)
set_option maxRecDepth 100000
set_option linter.unusedVariables false

set_option maxHeartbeats 8000000 in
theorem walk (w : World) (hT : AnyW w) (x : Int) (wx : (Lit.int .u8 x).wf = true) (s : ByteArray) (hs : s.size ≤ maxLen) :
    Calls Try.prog 4 #[.int .u8 x, .string s] w fun e w' => e = .returned (.bool true) ∧ Below w.heap.size w w' := by
  obtain ⟨sp, rfl, hsp⟩ := byte_of wx
  obtain ⟨nm, rfl⟩ := str_bs s
  have K1 := hid fun W => pspec_any sp nm W hsp
  have K2 := hid fun W => rspec_any sp nm W hsp
  have K3 := hid fun W => pfmt_any nm W
  have K4 := hid fun W => rformat_any nm W
  rw [show Opn.fmtN.contains nm = Opn.formatB nm from rfl] at K3
  generalize Opn.specialB sp nm = R at *
  generalize Opn.formatB nm = T at *
  generalize bs nm = X at *
  unfold maxLen at hs
  clear wx hT
  by_cases hm : X.size ≤ 3000
  · have d1 : decide ((3000 : Int) < (X.size : Int)) = false := decide_eq_false (by omega)
    have hgt : ¬ (3000 : Int) < (X.size : Int) := by omega
    go_enter Try.func4, Try.ntmps4
    go_wp2_with fail
    refine (known_any w).mono ?_
    rintro e w3 ⟨rfl, b3⟩
    have B3 := hid b3
    clear b3
    go_wp2_with fail
    refine (K1.out w3).mono ?_
    rintro e w4 ⟨rfl, b4⟩
    have B4 := hid (B3.out.trans (b4.mono B3.out.size))
    clear b4
    go_wp2_with fail
    refine (K2.out w4).mono ?_
    rintro e w5 ⟨rfl, b5⟩
    have B5 := hid (B4.out.trans (b5.mono B4.out.size))
    clear b5
    have e1 : (R == R) = true := by simp
    have e2 : (T == T) = true := by simp
    go_wp2_with fail
    refine (K3.out w5).mono ?_
    rintro e w6 ⟨rfl, rfl⟩
    go_wp2_with fail
    refine (K4.out w5).mono ?_
    rintro e w7 ⟨rfl, b7⟩
    have B7 := hid (B5.out.trans (b7.mono B5.out.size))
    clear b7
    go_wp2
    go_ret
    exact ⟨ret_bool' (by simp), B7.out⟩
  · have d1 : decide ((3000 : Int) < (X.size : Int)) = true := decide_eq_true (by omega)
    have hgt : (3000 : Int) < (X.size : Int) := by omega
    go_enter Try.func4, Try.ntmps4
    go_wp2
    go_ret
    exact ⟨rfl, Below.refl _ _⟩
end Go.Proofs.Ytolbohmalgklmaa.openKinds
