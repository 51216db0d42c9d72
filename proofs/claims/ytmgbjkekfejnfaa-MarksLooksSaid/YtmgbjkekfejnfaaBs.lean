/- A list of bytes as a text. -/
import Derived.Test.YtmgbjkekfejnfaaGnd
namespace Go.Proofs.Ytmgbjkekfejnfaa
open Go.RowKit Go.Lib

def bs (l : List UInt8) : ByteArray := ⟨l.toArray⟩
theorem bs_size (l : List UInt8) : (bs l).size = l.length := rfl
end Go.Proofs.Ytmgbjkekfejnfaa
