/- The walk of the statement MarksBack. -/
import Derived.Test.YtmgbjkekfejnfaaFrameM
import Derived.Test.YtmgbjkekfejnfaaMarkK
namespace Go.Proofs.Ytmgbjkekfejnfaa.marksBack
open Go.ChangeShapes Go.WideShapes Go.ChangeAt Go.RowKit Go.Lib
open Go.ChangeMaps (open_string shut_string)
set_option maxRecDepth 100000
set_option linter.unusedVariables false

theorem walk (w : World) (hT : AnyW w) (a : Option Addr) (n c : Nat) (rs : List MR) (xs : List Mk.M) (h : RowM w a n rs) (hC : CamesM w rs xs) (h1 : n ≤ c) (h2 : c ≤ 9223372036854775807) (h3 : a = none → c = 0) (hz : (n ≤ 281474976710656 ∧ ∀ (i : Nat) r x, rs[i]? = some r → xs[i]? = some x → SizedM r x))
    (b : Option Addr) (m d : Nat) (ss : List MR) (ys : List Mk.M) (g : RowM w b m ss) (gC : CamesM w ss ys) (g1 : m ≤ d) (g2 : d ≤ 9223372036854775807) (g3 : b = none → d = 0) (gz : (m ≤ 281474976710656 ∧ ∀ (i : Nat) r x, ss[i]? = some r → ys[i]? = some x → SizedM r x)) :
    Calls Try.prog 6 #[.slice a n c, .slice b m d] w fun e w' => e = .returned (.bool true) ∧ Below w.heap.size w w' := mback_any marksC a n c rs xs b m d ss ys w h hC h1 h2 (short_of hC hz.2) (short_of gC gz.2) g gC g1 g2
end Go.Proofs.Ytmgbjkekfejnfaa.marksBack
