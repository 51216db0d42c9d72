/- Laws: a range over a function, in a function that is in no round itself; all its rounds go on. Laws: a range over a function whose rounds may leave the function. -/
import Derived.Test.YtlgmjnnfndedbaaProg
import Derived.RangeFuncBox
import Derived.RangeFuncLeaves
import Derived.Shelf.Abstract
import Derived.WalkKit
import Derived.OwnWalkIn
import Derived.TacticsInMore
import Derived.LoopNIn
import Derived.LoopIn
namespace Go.Proofs.Ytlgmjnnfndedbaa
open Go.RowKit
set_option maxRecDepth 100000
set_option linter.unusedVariables false

variable {F : Fence} {n m : Nat} {P : Program}
/-- What the machine keeps of the loop. -/
def recOf (a : Act) (ps : Array Tmp) (as' bd : Code) (fn : FuncId) (D : Nat) (st : LoopState) : Loop := { state := st, pending := none, fn := fn, tmps := a.tmps, params := ps, assign := as', body := bd, defers := D }
/-- The record while a round runs. -/
def busyR (r : Loop) : Loop := { r with state := .busy }
end Go.Proofs.Ytlgmjnnfndedbaa
namespace Go.Proofs.Ytlgmjnnfndedbaa
open Go.RowKit
set_option maxRecDepth 100000
set_option linter.unusedVariables false

variable {F : Fence} {n m : Nat} {P : Program}
/-- The record where a round has left the function. -/
def leftR (r : Loop) : Loop := { r with state := .done, pending := some .ret }
/-- The statement: the call of the function; behind it the record stands ready, or a round has left. -/
theorem range_at2 {g : Operand} {ps : Array Tmp} {as' bd : Code} {Q : Exit → Act → World → Prop} {a : Act} {w : World} (hro : F.round = none) (hd : F.depth.isSome = true → 1 ≤ n)
    {gf : Nat} {lb : Array Value} (hg : a.eval g = .func (.func gf) #[] lb) (hF : F.fn gf) (eg : ∀ args w, (callFunc gf args).run P w = .ok (.enter gf args) w)
    (h : ∀ fn, F.fn fn → CallsIn F (n - 1) P gf (#[.func (.yield (w.heap.size + 1)) #[] #[]] ++ lb) ((w.alloc (.deferred (some []))).alloc (.loop (recOf a ps as' bd fn w.heap.size .ready))) fun e W =>
      (∃ v, e = .returned v) ∧ ((W.heap[w.heap.size + 1]? = some (.loop (recOf a ps as' bd fn w.heap.size .ready)) ∧
        Q .normal { a with defers := { target := .collected w.heap.size, args := #[] } :: a.defers } (W.putObj (w.heap.size + 1) (.loop (recOf a ps as' bd fn w.heap.size .exhausted)))) ∨
        (W.heap[w.heap.size + 1]? = some (.loop (leftR (recOf a ps as' bd fn w.heap.size .ready))) ∧
        Code.ret.wpIn F n P Q { a with defers := { target := .collected w.heap.size, args := #[] } :: a.defers } (W.putObj (w.heap.size + 1) (.loop { leftR (recOf a ps as' bd fn w.heap.size .ready) with state := .exhausted }))))) :
    (Code.rangeFunc g ps as' bd).wpIn F n P Q a w := by
  refine wpIn_rangeFunc fun fn hfn => ?_
  obtain ⟨W1, hW1⟩ : ∃ W1, (w.alloc (.deferred (some []))).alloc (.loop (recOf a ps as' bd fn w.heap.size .ready)) = W1 := ⟨_, rfl⟩
  have he : (Instr.enterLoop fn a.tmps ps as' bd F.round).run P w = .ok (w.heap.size + 1, [{ target := .collected w.heap.size, args := #[] }]) W1 := by
    rw [hro, ← hW1]
    exact run_enterLoop_outer fn a.tmps ps as' bd
  have hc := h fn hfn
  rw [hW1] at hc
  refine ⟨w.heap.size + 1, [{ target := .collected w.heap.size, args := #[] }], W1, { target := .fn (.func gf) lb, args := #[.func (.yield (w.heap.size + 1)) #[] #[]] }, W1, gf, #[.func (.yield (w.heap.size + 1)) #[] #[]] ++ lb, W1, he, ?r1, ?r2, ?r3, hd, ?r4⟩
  case r1 =>
    simp only [resolve, hg]
    simp [go_sem]
  case r2 =>
    intro f hf
    simp [Target.leads] at hf
    subst hf
    exact hF
  case r3 => simp [invoke, go_sem, eg]
  case r4 =>
    refine CallsIn.mono hc ?_
    rintro e W ⟨⟨v, rfl⟩, ⟨hl, hq⟩ | ⟨hl, hq⟩⟩
    · have hx : (Instr.endLoop (w.heap.size + 1)).run P W = .ok none (W.putObj (w.heap.size + 1) (.loop (recOf a ps as' bd fn w.heap.size .exhausted))) := run_endLoop hl (by simp [recOf])
      exact ⟨none, _, hx, hq⟩
    · have hx : (Instr.endLoop (w.heap.size + 1)).run P W = .ok (some .ret) (W.putObj (w.heap.size + 1) (.loop { leftR (recOf a ps as' bd fn w.heap.size .ready) with state := .exhausted })) := run_endLoop hl (by simp [leftR])
      exact ⟨some .ret, _, hx, hq⟩
/-- What is asked at the end of a round. -/
def roundEnd2 (l : Nat) (r : Loop) (R : Ending → World → Prop) : Exit → Act → World → Prop
  | .normal, _, W => W.heap[l]? = some (.loop (busyR r)) ∧ R (.returned (.bool true)) (W.putObj l (.loop r))
  | .ret, _, W => W.heap[l]? = some (.loop (busyR r)) ∧ R (.returned (.bool false)) (W.putObj l (.loop (leftR r)))
  | _, _, _ => False
/-- A call of yield: one round. -/
theorem round_at2 {l : Nat} {W : World} {r : Loop} {args : Array Value} {R : Ending → World → Prop} (hl : W.heap[l]? = some (.loop r)) (hst : r.state = .ready) (hpe : r.pending = none) (hps : args.size = r.params.size) (hF : F.fn r.fn)
    (h : r.assign.wpIn (F.inRound l) m P (Exit.then (fun a1 W1 => W1.heap[l]? = some (.loop r) ∧ r.body.wpIn (F.inRound l) m P (roundEnd2 l r R) a1 (W1.putObj l (.loop (busyR r)))) (fun _ _ _ => False))
      { tmps := (r.params.zip args).foldl (fun t (p, v) => t.setIfInBounds p v) r.tmps, defers := [] } W) : YieldAt F m P l args W R := by
  refine ⟨_, _, _, _, run_yield hl hps, roundIn_of_wpIn hF (wpIn_mono h ?_)⟩
  intro e a1 W1 hq
  cases e with
  | normal =>
    obtain ⟨h1, h2⟩ := hq
    refine ⟨_, run_beginRound h1 hst, wpIn_mono h2 ?_⟩
    intro e a2 W2 hq
    cases e with
    | normal =>
      obtain ⟨k1, k2⟩ := hq
      have he := run_endRound (P := P) none k1
      have hr : ({ busyR r with state := if (none : Option Code).isNone then .ready else .done, pending := none } : Loop) = r := by
        cases r
        simp at hst hpe
        simp [busyR, hst, hpe]
      rw [hr] at he
      exact ⟨_, _, he, k2⟩
    | ret =>
      obtain ⟨k1, k2⟩ := hq
      have he := run_endRound (P := P) (some .ret) k1
      exact ⟨_, _, he, k2⟩
    | exit id => exact hq.elim
    | goto t => exact hq.elim
    | panic ch => exact hq.elim
    | outgrown => exact hq.elim
  | exit id => exact hq.elim
  | goto t => exact hq.elim
  | ret => exact hq.elim
  | panic ch => exact hq.elim
  | outgrown => exact hq.elim
end Go.Proofs.Ytlgmjnnfndedbaa
