/- The walk of the statement DomDoes. -/
import Derived.Test.YthbklcpjbeelhaaDomHeavy
import Derived.Test.YthbklcpjbeelhaaDomDoes
namespace Go.Proofs.Ythbklcpjbeelhaa.domDoes
open Go.ChangeShapes Go.WideShapes Go.ChangeAt Go.RowKit Go.Lib
open Go.ChangeMaps (open_string shut_string)
set_option maxRecDepth 100000
set_option linter.unusedVariables false

theorem walk (w : World) (hT : AnyW w) (d : Nat) (os : List DOp) (a : Option Addr) (n c : Nat) (h : IsOps d w a n os) (hf : ∀ x ∈ os, opFits d x) (hn : n ≤ 9223372036854775807) :
    Calls Try.prog 3 #[.slice a n c] w fun e w' => e = .returned (.bool true) ∧ Below w.heap.size w w' := ddoes_any any_domC any_known any_keeps d os a n c w hT h hf hn
end Go.Proofs.Ythbklcpjbeelhaa.domDoes
