/- The walk of the statement MarksPush. -/
import Derived.Test.YtmgbjkekfejnfaaFrameM
import Derived.Test.YtmgbjkekfejnfaaMarkK
namespace Go.Proofs.Ytmgbjkekfejnfaa.marksPush
open Go.ChangeShapes Go.WideShapes Go.ChangeAt Go.RowKit Go.Lib
open Go.ChangeMaps (open_string shut_string)
set_option maxRecDepth 100000
set_option linter.unusedVariables false

theorem walk (w : World) (hT : AnyW w) (a : Option Addr) (n c : Nat) (rs : List MR) (xs : List Mk.M) (h : RowM w a n rs) (hC : CamesM w rs xs) (h1 : n ≤ c) (h2 : c ≤ 9223372036854775807) (h3 : a = none → c = 0) (hz : (n ≤ 281474976710656 ∧ ∀ (i : Nat) r x, rs[i]? = some r → xs[i]? = some x → SizedM r x))
    (r : MR) (x : Mk.M) (hm : CameM w r x) (hzm : SizedM r x) :
    Calls Try.prog 3 #[.slice a n c, .agg #[.int .i64 r.id, .string (bs r.name), .slice r.aa r.an r.ac]] w fun e w' => e = .returned (.bool true) ∧ Below w.heap.size w w' := mpush_any marksC a n c rs xs r x w h hC h1 h2 hz.2 hz.1 hm hzm.2.1
end Go.Proofs.Ytmgbjkekfejnfaa.marksPush
