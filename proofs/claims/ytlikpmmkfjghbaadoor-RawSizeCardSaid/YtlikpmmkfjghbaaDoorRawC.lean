/- What the program's Text of layer 8 is known to tell, as a premise for what stands on it. -/
import Derived.Test.YtlikpmmkfjghbaaDoorRawV
import Derived.Test.YtlikpmmkfjghbaaDoorWld
namespace Go.Proofs.YtlikpmmkfjghbaaDoor
open Go.RowKit Go.Lib
set_option maxRecDepth 100000
set_option linter.unusedVariables false

/-- What the program's Text is known to tell. -/
def RawC (EW : World → Prop) : Prop := ∀ (s name : ByteArray) (i : Int) (m : Nat) (w : World), EW w → s.size ≤ 400000 → name.size ≤ 400000 → m < 256 → (-9223372036854775808 ≤ i ∧ i ≤ 9223372036854775807) →
  Calls Tryd.prog 6 #[.string s, .int .i64 i, .string name, .int .u8 m] w fun e w' => e = .returned (rawV s.data.toList i (Raw.smallN name.data.toList) m) ∧ Below w.heap.size w w'
end Go.Proofs.YtlikpmmkfjghbaaDoor
