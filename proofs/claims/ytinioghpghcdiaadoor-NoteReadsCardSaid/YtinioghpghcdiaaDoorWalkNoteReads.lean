/- The walk of the statement NoteReads. -/
import Derived.Test.YtinioghpghcdiaaDoorFrameN
import Derived.Test.YtinioghpghcdiaaDoorNoteRow
namespace Go.Proofs.YtinioghpghcdiaaDoor.noteReads
open Go.ChangeShapes Go.WideShapes Go.ChangeAt Go.RowKit Go.Lib
open Go.ChangeMaps (open_string shut_string)
set_option maxRecDepth 100000
set_option linter.unusedVariables false

theorem walk (w : World) (hT : NoteW w) (s : ByteArray) (ws : s.size ≤ maxLen) (i : Int) (wi : (Lit.int .i64 i).wf = true) (cd : Bool) :
    Calls Tryd.prog 3 #[.string s, .int .i64 i, .bool cd] w fun e w' => e = .returned (.bool true) ∧ Below w.heap.size w w' :=
  nreads_any s i cd w hT (by have := Go.bounds_i64 wi; omega) ws
end Go.Proofs.YtinioghpghcdiaaDoor.noteReads
