/- The walk of the statement LexEnds. -/
import Derived.Test.YtgldgdopabmefaaDoorFrameL
import Derived.Test.YtgldgdopabmefaaDoorLexProg
import Derived.Test.YtgldgdopabmefaaDoorLexRowB
namespace Go.Proofs.YtgldgdopabmefaaDoor.lexEnds
open Go.ChangeShapes Go.WideShapes Go.ChangeAt Go.RowKit Go.Lib
open Go.ChangeMaps (open_string shut_string)
set_option maxRecDepth 100000
set_option linter.unusedVariables false

theorem walk (w : World) (hT : LexW w) (s : ByteArray) (ws : s.size ≤ maxLen) :
    Calls Tryd.prog 3 #[.string s] w fun e w' => e = .returned (.bool true) ∧ Below w.heap.size w w' := lends_any lexNC lexAC (fun _ _ h b => lex_below h b) s w hT ws
end Go.Proofs.YtgldgdopabmefaaDoor.lexEnds
