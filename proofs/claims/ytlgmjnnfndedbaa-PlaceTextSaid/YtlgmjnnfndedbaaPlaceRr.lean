/- Walks over the reference of layer 13: Rebuild. -/
import Derived.Test.YtlgmjnnfndedbaaPlaceRi
import Derived.Test.YtlgmjnnfndedbaaMarkM
import Derived.Test.YtlgmjnnfndedbaaRefWhole
import Derived.Deep.LoopGhost
import Derived.IntWalk
import Derived.BigCall
namespace Go.Proofs.Ytlgmjnnfndedbaa
open Go.RowKit Go.Lib
set_option maxRecDepth 100000
set_option linter.unusedVariables false
theorem AttsM.set {w : World} {rs : List MR} {xs : List Mk.M} (h : AttsM w rs xs) (k : Nat) {r : MR} {x : Mk.M} (f : FitM w r x) : AttsM w (rs.set k r) (xs.set k x) := by
  refine ⟨by simp [h.1], fun i r' x' hr hx => ?_⟩
  rw [List.getElem?_set] at hr hx
  by_cases hi : k = i
  · subst hi
    rw [if_pos rfl] at hr hx
    split at hr <;> split at hx <;> first | cases hr; done | cases hx; done | skip
    cases hr
    cases hx
    exact f
  · rw [if_neg hi] at hr hx
    exact h.2 i r' x' hr hx
end Go.Proofs.Ytlgmjnnfndedbaa
