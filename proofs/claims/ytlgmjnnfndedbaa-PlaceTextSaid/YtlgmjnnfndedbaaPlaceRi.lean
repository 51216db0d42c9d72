/- Walks over the reference of layer 13: Insert. -/
import Derived.Test.YtlgmjnnfndedbaaRefWhole
import Derived.Test.YtlgmjnnfndedbaaMarkM
import Derived.Test.YtlgmjnnfndedbaaDomC
import Derived.RangeFuncNested
import Derived.Maps.AppendAt
import Derived.Deep.RegionHeld3
import Derived.Deep.RegionLaw
import Derived.Deep.DeepCutAuto
namespace Go.Proofs.Ytlgmjnnfndedbaa
open Go.RowKit Go.Lib
set_option maxRecDepth 100000
set_option linter.unusedVariables false
/-- A call of two arguments as one step of a region that draws its order. -/
theorem step_call2 {P : Program} {w : World} {ops : Array Oper} {o : Oper} {a : Act} {K : Act → World → Prop} {Q : Exit → Act → World → Prop} {E : Prop} {f : Nat} {x y : Operand} {ts : Array TypeId} (hgd : o.guard = none)
    (ho : o.op = .call { callee := .value (.func f), args := #[x, y], argTypes := ts }) (eg : ∀ args w, (callFunc f args).run P w = .ok (.enter f args) w)
    (h : Calls P f #[a.eval x, a.eval y] w fun e w' => ∃ v, e = .returned v ∧ K (a.put o.dst v) w') :
    if Region.wanted o (yielded ops a.tmps) = true then Oper.wp P o a w K Q else E := by
  have hw : Region.wanted o (yielded ops a.tmps) = true := by simp [Region.wanted, hgd]
  rw [if_pos hw]
  have hr : (execOp a.eval o).run P w = .ok (.enter f #[a.eval x, a.eval y]) w := by simp [execOp, ho, resolve, invoke, go_sem, eg]
  unfold Oper.wp
  rw [hr, Oper.upon_enter]
  refine Calls.mono h ?_
  rintro e w' ⟨v, rfl, k⟩
  exact k
end Go.Proofs.Ytlgmjnnfndedbaa
