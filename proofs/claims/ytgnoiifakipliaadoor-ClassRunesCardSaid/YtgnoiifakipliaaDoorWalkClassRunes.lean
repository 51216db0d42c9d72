/- The walk of the statement ClassRunes. -/
import Derived.Test.YtgnoiifakipliaaDoorKnownC
import Derived.Test.YtgnoiifakipliaaDoorRefClass
namespace Go.Proofs.YtgnoiifakipliaaDoor.classRunes
open Go.ChangeShapes Go.WideShapes Go.ChangeAt Go.RowKit Go.Lib
open Go.ChangeMaps (open_string shut_string)
set_option maxRecDepth 100000
set_option linter.unusedVariables false

set_option maxHeartbeats 1000000 in
theorem walk (w : World) (hT : AllTabs w) (x : Int) (wx : (Lit.int .i32 x).wf = true) :
    Calls Tryd.prog 4 #[.int .i32 x] w fun e w' => e = .returned (.bool true) ∧ Below w.heap.size w w' := by
  have HK := hid (known2_any w hT)
  have HT := hid hT
  have H1 := hid fun w => cblank_any x w
  have H2 := hid fun w => rblank_any x w
  have H3 := hid fun w h => cpunct_any x w h
  have H4 := hid fun w => rpunct_any x w
  generalize blankR x = q1 at *
  generalize punctR x = q2 at *
  clear hT
  go_enter Tryd.func4, Tryd.ntmps4
  go_wp2_with fail
  refine HK.out.mono ?_
  rintro e w1 ⟨rfl, b1⟩
  go_wp2_with fail
  refine (H1.out _).mono ?_
  rintro e w2 ⟨rfl, rfl⟩
  go_wp2_with fail
  refine (H2.out _).mono ?_
  rintro e w2 ⟨rfl, rfl⟩
  go_wp2_with fail
  refine (H3.out _ (punct_below HT.out.2 b1)).mono ?_
  rintro e w2 ⟨rfl, rfl⟩
  go_wp2_with fail
  refine (H4.out _).mono ?_
  rintro e w2 ⟨rfl, b2⟩
  go_wp2
  go_ret
  exact ⟨ret_bool' (by simp), b1.trans (b2.mono b1.size)⟩
end Go.Proofs.YtgnoiifakipliaaDoor.classRunes
