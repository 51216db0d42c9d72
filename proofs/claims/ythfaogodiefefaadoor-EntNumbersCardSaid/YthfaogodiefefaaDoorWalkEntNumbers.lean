/- The walk of the statement EntNumbers. -/
import Derived.Test.YthfaogodiefefaaDoorKnownE
import Derived.Test.YthfaogodiefefaaDoorRefEnt
namespace Go.Proofs.YthfaogodiefefaaDoor.entNumbers
open Go.ChangeShapes Go.WideShapes Go.ChangeAt Go.RowKit Go.Lib
open Go.ChangeMaps (open_string shut_string)
set_option maxRecDepth 100000
set_option linter.unusedVariables false

set_option maxHeartbeats 1000000 in
theorem walk (w : World) (hT : EntW w) (x : Int) (wx : (Lit.int .i64 x).wf = true) :
    Calls Tryd.prog 4 #[.int .i64 x] w fun e w' => e = .returned (.bool true) ∧ Below w.heap.size w w' := by
  have HK := hid (known3_any w hT)
  have HT := hid hT
  have H1 := hid fun w h => number_any x w h
  have H2 := hid fun w => rnumber_any x w wx
  generalize Ent.numZ x = q at *
  clear hT
  go_enter Tryd.func4, Tryd.ntmps4
  go_wp2_with fail
  refine HK.out.mono ?_
  rintro e w1 ⟨rfl, b1⟩
  go_wp2_with fail
  refine (H1.out _ (ent_below HT.out b1).1).mono ?_
  rintro e w2 ⟨rfl, rfl⟩
  go_wp2_with fail
  refine (H2.out _).mono ?_
  rintro e w2 ⟨rfl, b2⟩
  go_wp2
  go_ret
  exact ⟨ret_bool' (by simp), b1.trans (b2.mono b1.size)⟩
end Go.Proofs.YthfaogodiefefaaDoor.entNumbers
