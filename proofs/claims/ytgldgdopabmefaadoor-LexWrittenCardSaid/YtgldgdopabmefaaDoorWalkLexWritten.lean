/- The walk of the statement LexWritten. -/
import Derived.Test.YtgldgdopabmefaaDoorFrameL
import Derived.Test.YtgldgdopabmefaaDoorLexProg
import Derived.Test.YtgldgdopabmefaaDoorLexRowB
namespace Go.Proofs.YtgldgdopabmefaaDoor.lexWritten
open Go.ChangeShapes Go.WideShapes Go.ChangeAt Go.RowKit Go.Lib
open Go.ChangeMaps (open_string shut_string)
set_option maxRecDepth 100000
set_option linter.unusedVariables false

theorem walk (w : World) (hT : LexW w) (s : ByteArray) (ws : s.size ≤ maxLen) :
    Calls Tryd.prog 4 #[.string s] w fun e w' => e = .returned (.bool true) ∧ Below w.heap.size w w' := lwrit_any lexNC lexAC (fun _ _ h b => lex_below h b) s w hT ws
end Go.Proofs.YtgldgdopabmefaaDoor.lexWritten
