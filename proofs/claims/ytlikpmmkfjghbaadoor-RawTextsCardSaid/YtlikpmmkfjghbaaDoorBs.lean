/- A list of bytes as a text. -/
import Derived.Test.YtlikpmmkfjghbaaDoorBase
namespace Go.Proofs.YtlikpmmkfjghbaaDoor
open Go.RowKit Go.Lib

def bs (l : List UInt8) : ByteArray := ⟨l.toArray⟩
end Go.Proofs.YtlikpmmkfjghbaaDoor
