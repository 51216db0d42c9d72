/- The walk of the statement TagReads. -/
import Derived.Test.YtojmffpkjnpnlaaDoorFrameE
import Derived.Test.YtojmffpkjnpnlaaDoorTagRow
namespace Go.Proofs.YtojmffpkjnpnlaaDoor.tagReads
open Go.ChangeShapes Go.WideShapes Go.ChangeAt Go.RowKit Go.Lib
open Go.ChangeMaps (open_string shut_string)
set_option maxRecDepth 100000
set_option linter.unusedVariables false

theorem walk (w : World) (hT : EntW w) (s : ByteArray) (ws : s.size ≤ maxLen) (i : Int) (wi : (Lit.int .i64 i).wf = true) :
    Calls Tryd.prog 3 #[.string s, .int .i64 i] w fun e w' => e = .returned (.bool true) ∧ Below w.heap.size w w' :=
  treads_any s i w hT (by have := Go.bounds_i64 wi; omega) ws
end Go.Proofs.YtojmffpkjnpnlaaDoor.tagReads
