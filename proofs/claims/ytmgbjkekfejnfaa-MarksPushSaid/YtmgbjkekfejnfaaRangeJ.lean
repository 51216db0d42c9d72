/- Laws: a range over a function whose rounds may leave it by whatever jump: out of the function, or out of a block around it. -/
import Derived.Test.YtmgbjkekfejnfaaRange
namespace Go.Proofs.Ytmgbjkekfejnfaa
open Go.RowKit
set_option maxRecDepth 100000
set_option linter.unusedVariables false

variable {F : Fence} {n m : Nat} {P : Program}
/-- The record where a round has left by that jump. -/
def leftJ (r : Loop) (j : Code) : Loop := { r with state := .done, pending := some j }
/-- The record behind the statement. -/
def overR (r : Loop) : Loop := { r with state := .exhausted }
/-- The mark that the statement leaves among the deferred calls. -/
def markD (b : Nat) : Deferred := { target := .collected b, args := #[] }
/-- The statement: the call of the function; behind it the record stands ready, or a round has left. -/
theorem range_at3 {g : Operand} {ps : Array Tmp} {as' bd : Code} {Q : Exit → Act → World → Prop} {a : Act} {w : World} (hro : F.round = none) (hd : F.depth.isSome = true → 1 ≤ n)
    {gf : Nat} {lb : Array Value} (hg : a.eval g = .func (.func gf) #[] lb) (hF : F.fn gf) (eg : ∀ args w, (callFunc gf args).run P w = .ok (.enter gf args) w)
    (h : ∀ fn, F.fn fn → CallsIn F (n - 1) P gf (#[.func (.yield (w.heap.size + 1)) #[] #[]] ++ lb) ((w.alloc (.deferred (some []))).alloc (.loop (recOf a ps as' bd fn w.heap.size .ready))) fun e W =>
      (∃ v, e = .returned v) ∧ ((W.heap[w.heap.size + 1]? = some (.loop (recOf a ps as' bd fn w.heap.size .ready)) ∧
        Q .normal { a with defers := markD w.heap.size :: a.defers } (W.putObj (w.heap.size + 1) (.loop (overR (recOf a ps as' bd fn w.heap.size .ready))))) ∨
        (∃ j, W.heap[w.heap.size + 1]? = some (.loop (leftJ (recOf a ps as' bd fn w.heap.size .ready) j)) ∧
        j.wpIn F n P Q { a with defers := markD w.heap.size :: a.defers } (W.putObj (w.heap.size + 1) (.loop (overR (leftJ (recOf a ps as' bd fn w.heap.size .ready) j))))))) :
    (Code.rangeFunc g ps as' bd).wpIn F n P Q a w := by
  refine wpIn_rangeFunc fun fn hfn => ?_
  obtain ⟨W1, hW1⟩ : ∃ W1, (w.alloc (.deferred (some []))).alloc (.loop (recOf a ps as' bd fn w.heap.size .ready)) = W1 := ⟨_, rfl⟩
  have he : (Instr.enterLoop fn a.tmps ps as' bd F.round).run P w = .ok (w.heap.size + 1, [markD w.heap.size]) W1 := by
    rw [hro, ← hW1]
    exact run_enterLoop_outer fn a.tmps ps as' bd
  have hc := h fn hfn
  rw [hW1] at hc
  refine ⟨w.heap.size + 1, [markD w.heap.size], W1, { target := .fn (.func gf) lb, args := #[.func (.yield (w.heap.size + 1)) #[] #[]] }, W1, gf, #[.func (.yield (w.heap.size + 1)) #[] #[]] ++ lb, W1, he, ?r1, ?r2, ?r3, hd, ?r4⟩
  case r1 =>
    simp only [resolve, hg]
    simp [go_sem]
  case r2 =>
    intro f hf
    simp [Target.leads] at hf
    subst hf
    exact hF
  case r3 => simp [invoke, go_sem, eg]
  case r4 =>
    refine CallsIn.mono hc ?_
    rintro e W ⟨⟨v, rfl⟩, ⟨hl, hq⟩ | ⟨j, hl, hq⟩⟩
    · have hx : (Instr.endLoop (w.heap.size + 1)).run P W = .ok none (W.putObj (w.heap.size + 1) (.loop (overR (recOf a ps as' bd fn w.heap.size .ready)))) := run_endLoop hl (by simp [recOf])
      exact ⟨none, _, hx, hq⟩
    · have hx : (Instr.endLoop (w.heap.size + 1)).run P W = .ok (some j) (W.putObj (w.heap.size + 1) (.loop (overR (leftJ (recOf a ps as' bd fn w.heap.size .ready) j)))) := run_endLoop hl (by simp [leftJ])
      exact ⟨some j, _, hx, hq⟩
/-- What is asked at the end of a round. -/
def roundEnd3 (l : Nat) (r : Loop) (R : Ending → World → Prop) : Exit → Act → World → Prop
  | .normal, _, W => W.heap[l]? = some (.loop (busyR r)) ∧ R (.returned (.bool true)) (W.putObj l (.loop r))
  | .ret, _, W => W.heap[l]? = some (.loop (busyR r)) ∧ R (.returned (.bool false)) (W.putObj l (.loop (leftJ r .ret)))
  | .exit id, _, W => W.heap[l]? = some (.loop (busyR r)) ∧ R (.returned (.bool false)) (W.putObj l (.loop (leftJ r (.exit id))))
  | _, _, _ => False
/-- A call of yield: one round. -/
theorem round_at3 {l : Nat} {W : World} {r : Loop} {args : Array Value} {R : Ending → World → Prop} (hl : W.heap[l]? = some (.loop r)) (hst : r.state = .ready) (hpe : r.pending = none) (hps : args.size = r.params.size) (hF : F.fn r.fn)
    (h : r.assign.wpIn (F.inRound l) m P (Exit.then (fun a1 W1 => W1.heap[l]? = some (.loop r) ∧ r.body.wpIn (F.inRound l) m P (roundEnd3 l r R) a1 (W1.putObj l (.loop (busyR r)))) (fun _ _ _ => False))
      { tmps := (r.params.zip args).foldl (fun t (p, v) => t.setIfInBounds p v) r.tmps, defers := [] } W) : YieldAt F m P l args W R := by
  refine ⟨_, _, _, _, run_yield hl hps, roundIn_of_wpIn hF (wpIn_mono h ?_)⟩
  intro e a1 W1 hq
  cases e with
  | normal =>
    obtain ⟨h1, h2⟩ := hq
    refine ⟨_, run_beginRound h1 hst, wpIn_mono h2 ?_⟩
    intro e a2 W2 hq
    cases e with
    | normal =>
      obtain ⟨k1, k2⟩ := hq
      have he := run_endRound (P := P) none k1
      have hr : ({ busyR r with state := if (none : Option Code).isNone then .ready else .done, pending := none } : Loop) = r := by
        cases r
        simp at hst hpe
        simp [busyR, hst, hpe]
      rw [hr] at he
      exact ⟨_, _, he, k2⟩
    | ret =>
      obtain ⟨k1, k2⟩ := hq
      have he := run_endRound (P := P) (some .ret) k1
      exact ⟨_, _, he, k2⟩
    | exit id =>
      obtain ⟨k1, k2⟩ := hq
      have he := run_endRound (P := P) (some (.exit id)) k1
      exact ⟨_, _, he, k2⟩
    | goto t => exact hq.elim
    | panic ch => exact hq.elim
    | outgrown => exact hq.elim
  | exit id => exact hq.elim
  | goto t => exact hq.elim
  | ret => exact hq.elim
  | panic ch => exact hq.elim
  | outgrown => exact hq.elim
/-! ### Leaving with marks -/
/-- The marks among the deferred calls: each of a block of its own, no older than base, in which no call lies. -/
def MarksD (base : Nat) : List Deferred → World → Prop
  | [], _ => True
  | d :: ds, W => ∃ b, d = markD b ∧ base ≤ b ∧ W.heap[b]? = some (.deferred (some [])) ∧ (∀ e ∈ ds, e ≠ markD b) ∧ MarksD base ds W
theorem MarksD.up {base : Nat} : ∀ {ds : List Deferred} {W W' : World}, MarksD base ds W → (∀ b, W.heap[b]? = some (.deferred (some [])) → markD b ∈ ds → W'.heap[b]? = some (.deferred (some []))) → MarksD base ds W'
  | [], _, _, _, _ => True.intro
  | d :: ds, W, W', ⟨b, e, hb, hd, hne, hr⟩, h => ⟨b, e, hb, h b hd (by rw [e]; exact List.mem_cons_self), hne, MarksD.up hr fun c hc hm => h c hc (List.mem_cons_of_mem _ hm)⟩
theorem marks_leave {fn : Func} {tmps : Array Value} {R : Ending → World → Prop} {base : Nat} {w0 : World} : ∀ (ds : List Deferred) (W : World), base ≤ w0.heap.size → MarksD base ds W → Below base w0 W →
    (∀ W', Below base w0 W' → LeavesIn F n P fn tmps R [] .returning W') → LeavesInM F n P fn tmps R ds .returning W
  | [], W, _, _, hb, h => h W hb
  | d :: ds, W, h0, ⟨b, e, hbb, hd, hne, hr⟩, hb, h => by
    refine ⟨by simp, .inl ⟨b, W.putObj b (.deferred none), by rw [e]; rfl, run_takeDeferred hd, ?_⟩⟩
    refine marks_leave ds _ h0 (hr.up fun c hc hm => ?_) (hb.grown (grownBy_putObj' W b (.deferred none)) (Nat.le_trans h0 hb.size) (fun k e => by cases e; exact hbb)) h
    rw [World.putObj_heap_other (fun e => hne _ hm (by rw [e]))]
    exact hc
end Go.Proofs.Ytmgbjkekfejnfaa
