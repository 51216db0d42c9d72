/- What the program's package marks is known to do. -/
import Derived.Test.YtmgbjkekfejnfaaMarkC
import Derived.Test.YtmgbjkekfejnfaaMarkPh
import Derived.Test.YtmgbjkekfejnfaaMarkLa
import Derived.Test.YtmgbjkekfejnfaaMarkLt
namespace Go.Proofs.Ytmgbjkekfejnfaa
open Go.RowKit Go.Lib
theorem marksC : MarksC where
  push := fun a n c rs xs r x w h g hn hs hx => ppush_any a n c rs xs r x w h g hn hs hx
  clear := fun a n c rs xs w h _ hs => pclear_any a n c rs xs w h hs
  last := fun a n c rs xs nm w h _ => plast_any a n c rs xs nm w h
  find := fun a n c rs xs id w h _ _ _ => pfind_any a n c rs xs id w h
  lost := fun a n c rs xs oa on oc l w h g _ ho _ _ => plost_any a n c rs xs oa on oc l w h g (by omega)
end Go.Proofs.Ytmgbjkekfejnfaa
