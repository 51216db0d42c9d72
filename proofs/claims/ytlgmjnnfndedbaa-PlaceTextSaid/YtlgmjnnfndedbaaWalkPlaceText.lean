/- The walk of the statement PlaceText. -/
import Derived.Test.YtlgmjnnfndedbaaFrameP
import Derived.Test.YtlgmjnnfndedbaaPlaceTd
namespace Go.Proofs.Ytlgmjnnfndedbaa.placeText
open Go.ChangeShapes Go.WideShapes Go.ChangeAt Go.RowKit Go.Lib
open Go.ChangeMaps (open_string shut_string)
set_option maxRecDepth 100000
set_option linter.unusedVariables false

theorem walk (w : World) (hT : AnyW w) (a : Option Addr) (n c : Nat) (os : List POp) (h : IsPops w a n os) (hf : ∀ x ∈ os, popFits x) (h1 : n ≤ c) (h2 : c ≤ 9223372036854775807) (h3 : a = none → c = 0) (hz : n ≤ 281474976710656 ∧ ∀ x ∈ os, x.Sized) :
    Calls Try.prog 4 #[.slice a n c] w fun e w' => e = .returned (.bool true) ∧ Below w.heap.size w w' := ptext13_any a n c os w h hf hz.2 hz.1
end Go.Proofs.Ytlgmjnnfndedbaa.placeText
