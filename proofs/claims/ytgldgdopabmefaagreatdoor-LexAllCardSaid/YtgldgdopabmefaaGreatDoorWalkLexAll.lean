/- The walk of the statement LexAll. -/
import Derived.Test.YtgldgdopabmefaaGreatDoorNoteCom
import Derived.Test.YtgldgdopabmefaaGreatDoorLexProg
import Derived.Test.YtgldgdopabmefaaGreatDoorLexRow
namespace Go.Proofs.YtgldgdopabmefaaGreatDoor.lexAll
open Go.ChangeShapes Go.WideShapes Go.ChangeAt Go.RowKit Go.Lib
open Go.ChangeMaps (open_string shut_string)
set_option maxRecDepth 100000
set_option linter.unusedVariables false

theorem walk (w : World) (hT : LexW w) (s : ByteArray) (ws : s.size ≤ maxLen) :
    Calls Tryz.prog 4 #[.string s] w fun e w' => e = .returned (.bool true) ∧ Below w.heap.size w w' := lall_any lexNC lexAC (fun _ _ h b => lex_below h b) s w hT ws
end Go.Proofs.YtgldgdopabmefaaGreatDoor.lexAll
