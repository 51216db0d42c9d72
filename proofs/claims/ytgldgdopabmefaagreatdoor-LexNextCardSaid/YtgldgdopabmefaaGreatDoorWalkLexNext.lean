/- The walk of the statement LexNext. -/
import Derived.Test.YtgldgdopabmefaaGreatDoorNoteCom
import Derived.Test.YtgldgdopabmefaaGreatDoorLexProg
import Derived.Test.YtgldgdopabmefaaGreatDoorLexRow
namespace Go.Proofs.YtgldgdopabmefaaGreatDoor.lexNext
open Go.ChangeShapes Go.WideShapes Go.ChangeAt Go.RowKit Go.Lib
open Go.ChangeMaps (open_string shut_string)
set_option maxRecDepth 100000
set_option linter.unusedVariables false

theorem walk (w : World) (hT : LexW w) (s : ByteArray) (ws : s.size ≤ maxLen) (i : Int) (wi : (Lit.int .i64 i).wf = true) (x : Int) (wx : (Lit.int .u8 x).wf = true) (name : ByteArray) (wn : name.size ≤ maxLen) (cd : Bool) :
    Calls Tryz.prog 3 #[.string s, .int .i64 i, .int .u8 x, .string name, .bool cd] w fun e w' => e = .returned (.bool true) ∧ Below w.heap.size w w' := by
  have hb := Go.bounds_u8 wx
  have hi := Go.bounds_i64 wi
  obtain ⟨m, rfl⟩ : ∃ m : Nat, x = m := ⟨x.toNat, by omega⟩
  exact lnext_any lexNC lexAC (fun _ _ h b => lex_below h b) s name i m cd w hT ws wn (by omega) (by omega)
end Go.Proofs.YtgldgdopabmefaaGreatDoor.lexNext
