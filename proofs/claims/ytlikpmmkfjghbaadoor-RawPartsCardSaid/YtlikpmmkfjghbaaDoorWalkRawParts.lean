/- The walk of the statement RawParts. -/
import Derived.Test.YtlikpmmkfjghbaaDoorFrameE
import Derived.Test.YtlikpmmkfjghbaaDoorRawProg
import Derived.Test.YtlikpmmkfjghbaaDoorRawPart
namespace Go.Proofs.YtlikpmmkfjghbaaDoor.rawParts
open Go.ChangeShapes Go.WideShapes Go.ChangeAt Go.RowKit Go.Lib
open Go.ChangeMaps (open_string shut_string)
set_option maxRecDepth 100000
set_option linter.unusedVariables false

theorem walk (w : World) (hT : EntW w) (s : ByteArray) (ws : s.size ≤ maxLen) (name : ByteArray) (wn : name.size ≤ maxLen) (x : Int) (wx : (Lit.int .u8 x).wf = true) :
    Calls Tryd.prog 4 #[.string s, .string name, .int .u8 x] w fun e w' => e = .returned (.bool true) ∧ Below w.heap.size w w' := by
  have hb := Go.bounds_u8 wx
  obtain ⟨m, rfl⟩ : ∃ m : Nat, x = m := ⟨x.toNat, by omega⟩
  exact rparts_any rawC (fun _ _ h b => ent_below h b) s name m w hT ws wn (by omega)
end Go.Proofs.YtlikpmmkfjghbaaDoor.rawParts
