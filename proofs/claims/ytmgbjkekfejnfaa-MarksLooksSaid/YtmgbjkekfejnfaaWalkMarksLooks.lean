/- The walk of the statement MarksLooks. -/
import Derived.Test.YtmgbjkekfejnfaaFrameM
import Derived.Test.YtmgbjkekfejnfaaMarkK
import Derived.Test.YtmgbjkekfejnfaaElemArg
namespace Go.Proofs.Ytmgbjkekfejnfaa.marksLooks
open Go.ChangeShapes Go.WideShapes Go.ChangeAt Go.RowKit Go.Lib
open Go.ChangeMaps (open_string shut_string)
set_option maxRecDepth 100000
set_option linter.unusedVariables false

theorem walk (w : World) (hT : AnyW w) (a : Option Addr) (n c : Nat) (rs : List MR) (xs : List Mk.M) (h : RowM w a n rs) (hC : CamesM w rs xs) (h1 : n ≤ c) (h2 : c ≤ 9223372036854775807) (h3 : a = none → c = 0) (hz : (n ≤ 281474976710656 ∧ ∀ (i : Nat) r x, rs[i]? = some r → xs[i]? = some x → SizedM r x))
    (s : ByteArray) (hs : s.size ≤ maxLen) (id : Int) (hid : (Lit.int .i64 id).wf = true)
    (oa : Option Addr) (on oc : Nat) (l : List Opn.E) (g : IsE w oa on l) (gf : ∀ x ∈ l, eFits x) (g1 : on ≤ oc) (g2 : oc ≤ 9223372036854775807) (g3 : oa = none → oc = 0) :
    Calls Try.prog 4 #[.slice a n c, .string s, .int .i64 id, .slice oa on oc] w fun e w' => e = .returned (.bool true) ∧ Below w.heap.size w w' := by
  obtain ⟨nm, rfl⟩ := str_bs s
  unfold maxLen at hs
  have hi : -9223372036854775808 ≤ id ∧ id ≤ 9223372036854775807 := by
    simp [Lit.wf, IntKind.min, IntKind.max, IntKind.bits, IntKind.signed] at hid
    omega
  exact mlooks_any marksC a n c rs xs nm id oa on oc l w h hC h1 h2 hz.2 hz.1 hs hi.1 hi.2 g g1 g2
end Go.Proofs.Ytmgbjkekfejnfaa.marksLooks
