/- The walk of the statement DomSame. -/
import Derived.Test.YthbklcpjbeelhaaDomHeavy
import Derived.Test.YthbklcpjbeelhaaDomRow
import Derived.Test.YthbklcpjbeelhaaDomSp
import Derived.Test.YthbklcpjbeelhaaPrNodes
namespace Go.Proofs.Ythbklcpjbeelhaa.domSame
open Go.ChangeShapes Go.WideShapes Go.ChangeAt Go.RowKit Go.Lib
open Go.ChangeMaps (open_string shut_string)
set_option maxRecDepth 100000
set_option linter.unusedVariables false

theorem any_print : DomPrintQ AnyW spL := fun d S ns a n c w _ h hs hw => pprint_any d S ns a n c w h hs hw
theorem okL_wider {M M' : Nat} (hM : M ≤ M') : ∀ {d : Nat} {ns : List Dom.N}, Dom.okL M d ns → Dom.okL M' d ns
  | 0, _, _ => trivial
  | d + 1, ns, h => fun x hx => by
    obtain ⟨h1, h2, h3, h4, h5, h6⟩ := h x hx
    exact ⟨Nat.le_trans h1 hM, Nat.le_trans h2 hM, fun a ha => ⟨Nat.le_trans (h3 a ha).1 hM, Nat.le_trans (h3 a ha).2 hM⟩, Nat.le_trans h4 hM, Nat.le_trans h5 hM, okL_wider hM h6⟩
theorem walk (w : World) (hT : AnyW w) (d : Nat) (ns : List Dom.N) (a1 : Option Addr) (n1 c1 : Nat) (h : IsN (fun _ => True) d w a1 n1 ns) (ho : Dom.okL maxLen d ns) (hn : n1 ≤ 9223372036854775807) (hs : spL d ns)
    (ms : List Dom.N) (a2 : Option Addr) (n2 c2 : Nat) (g : IsN (fun _ => True) d w a2 n2 ms) (go : Dom.okL maxLen d ms) (gn : n2 ≤ 9223372036854775807) (gs : spL d ms) :
    Calls Try.prog 4 #[.slice a1 n1 c1, .slice a2 n2 c2] w fun e w' => e = .returned (.bool true) ∧ Below w.heap.size w w' :=
  dsame_any any_same any_print any_known any_keeps d _ _ ns ms a1 n1 c1 a2 n2 c2 w hT h g (okL_wider (by unfold maxLen; omega) ho) (okL_wider (by unfold maxLen; omega) go) hn gn hs
end Go.Proofs.Ythbklcpjbeelhaa.domSame
