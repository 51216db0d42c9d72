/- The walk of the statement DomBack. -/
import Derived.Test.YthbklcpjbeelhaaDomHeavy
import Derived.Test.YthbklcpjbeelhaaDomBack
namespace Go.Proofs.Ythbklcpjbeelhaa.domBack
open Go.ChangeShapes Go.WideShapes Go.ChangeAt Go.RowKit Go.Lib
open Go.ChangeMaps (open_string shut_string)
set_option maxRecDepth 100000
set_option linter.unusedVariables false

theorem walk (w : World) (hT : AnyW w) (d : Nat) (os : List DOp) (a : Option Addr) (n c : Nat) (h : IsOps d w a n os) (hf : ∀ x ∈ os, opFits d x) (hn : n ≤ 9223372036854775807)
    (x : Dom.N) (aa : Option Addr) (an ac : Nat) (ka : Option Addr) (kn kc : Nat) (hA : IsA w aa an x.atts) (hKi : IsN (fun _ => True) d w ka kn x.kids) (hnil : aa = none → ac = 0) (hknil : ka = none → kc = 0) (hx : nodeFits d x) :
    Calls Try.prog 6 #[.slice a n c, .agg #[.int .u8 x.kind, .int .u8 x.space, .string (bs x.name), .slice aa an ac, .string (bs x.text), .slice ka kn kc]] w fun e w' => e = .returned (.bool true) ∧ Below w.heap.size w w' :=
  dback_any any_domC any_known any_same any_keeps d os a n c x aa an ac ka kn kc w hT h hf hn hA hKi hnil hknil hx
end Go.Proofs.Ythbklcpjbeelhaa.domBack
