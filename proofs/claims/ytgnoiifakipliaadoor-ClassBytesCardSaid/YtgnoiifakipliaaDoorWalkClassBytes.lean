/- The walk of the statement ClassBytes. -/
import Derived.Test.YtgnoiifakipliaaDoorKnownC
import Derived.Test.YtgnoiifakipliaaDoorRefClass
namespace Go.Proofs.YtgnoiifakipliaaDoor.classBytes
open Go.ChangeShapes Go.WideShapes Go.ChangeAt Go.RowKit Go.Lib
open Go.ChangeMaps (open_string shut_string)
set_option maxRecDepth 100000
set_option linter.unusedVariables false

set_option maxHeartbeats 1000000 in
theorem walk (w : World) (hT : AllTabs w) (x : Int) (wx : (Lit.int .u8 x).wf = true) :
    Calls Tryd.prog 3 #[.int .u8 x] w fun e w' => e = .returned (.bool true) ∧ Below w.heap.size w w' := by
  have hb := bounds_u8 wx
  obtain ⟨c, rfl⟩ : ∃ c : Nat, x = c := ⟨x.toNat, by omega⟩
  have hc : c < 256 := by omega
  have HK := hid (known2_any w hT)
  have H1 := hid fun w => cspace_any c hc w
  have H2 := hid fun w => rspace_any c hc w
  have H3 := hid fun w => cletter_any c hc w
  have H4 := hid fun w => rletter_any c hc w
  have H5 := hid fun w => cdigit_any c hc w
  have H6 := hid fun w => rdigit_any c hc w
  have H7 := hid fun w => chex_any c hc w
  have H8 := hid fun w => rhex_any c hc w
  generalize spaceN c = q1 at *
  generalize letterN c = q2 at *
  generalize digitN c = q3 at *
  generalize hexN c = q4 at *
  clear hT wx hb
  go_enter Tryd.func3, Tryd.ntmps3
  go_wp2_with fail
  refine HK.out.mono ?_
  rintro e w1 ⟨rfl, b1⟩
  go_wp2_with fail
  refine (H1.out _).mono ?_
  rintro e w2 ⟨rfl, rfl⟩
  go_wp2_with fail
  refine (H2.out _).mono ?_
  rintro e w2 ⟨rfl, rfl⟩
  go_wp2_with fail
  refine (H3.out _).mono ?_
  rintro e w2 ⟨rfl, rfl⟩
  go_wp2_with fail
  refine (H4.out _).mono ?_
  rintro e w2 ⟨rfl, rfl⟩
  go_wp2_with fail
  refine (H5.out _).mono ?_
  rintro e w2 ⟨rfl, rfl⟩
  go_wp2_with fail
  refine (H6.out _).mono ?_
  rintro e w2 ⟨rfl, rfl⟩
  go_wp2_with fail
  refine (H7.out _).mono ?_
  rintro e w2 ⟨rfl, rfl⟩
  go_wp2_with fail
  refine (H8.out _).mono ?_
  rintro e w2 ⟨rfl, rfl⟩
  go_wp2
  go_ret
  exact ⟨ret_bool' (by simp), b1⟩
end Go.Proofs.YtgnoiifakipliaaDoor.classBytes
