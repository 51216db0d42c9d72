/- A list of bytes as a text. -/
import Derived.Test.YtolbohmalgklmaaGnd
namespace Go.Proofs.Ytolbohmalgklmaa
open Go.RowKit Go.Lib

def bs (l : List UInt8) : ByteArray := ⟨l.toArray⟩
end Go.Proofs.Ytolbohmalgklmaa
