/- What lies in memory while a range over a function runs: the loop's record, its mark's block, and blocks that are known whole. -/
import Derived.Test.YtmgbjkekfejnfaaRangeJ
import Derived.Test.YtmgbjkekfejnfaaBlk
import Derived.Test.YtmgbjkekfejnfaaWld
namespace Go.Proofs.Ytmgbjkekfejnfaa
open Go.RowKit Go.Lib
set_option maxRecDepth 100000
set_option linter.unusedVariables false

/-- Blocks known whole: where, what lies there, of which type. -/
abbrev Blocks := List (Nat × Array Value × TypeId)
structure LoopM (w : World) (L : Nat) (r : Loop) (bl : Blocks) (W : World) : Prop where
  rcd : W.heap[L + 1]? = some (.loop r)
  dfr : W.heap[L]? = some (.deferred (some []))
  blk : ∀ x ∈ bl, BlkW W x.1 x.2.1 x.2.2
  far : ∀ x ∈ bl, w.heap.size ≤ x.1 ∧ x.1 < L
  low : w.heap.size ≤ L
  below : Below w.heap.size w W
theorem LoopM.at_ {w W : World} {L : Nat} {r : Loop} {bl : Blocks} (h : LoopM w L r bl W) {g : Nat} {cs : Array Value} {t : TypeId} (i : Nat) (hm : (g, cs, t) ∈ bl) : W.cell? ⟨g, i, none⟩ = cs[i]? := (h.blk _ hm).cell i
theorem LoopM.free {w W : World} {L : Nat} {r : Loop} {bl : Blocks} (h : LoopM w L r bl W) {g : Nat} {cs : Array Value} {t : TypeId} (i : Nat) (hm : (g, cs, t) ∈ bl) : W.frozen? ⟨g, i, none⟩ = false := (h.blk _ hm).free i
theorem LoopM.size {w W : World} {L : Nat} {r : Loop} {bl : Blocks} (h : LoopM w L r bl W) : L + 1 < W.heap.size := (Array.getElem?_eq_some_iff.1 h.rcd).1
theorem LoopM.busy {w W : World} {L : Nat} {r : Loop} {bl : Blocks} (h : LoopM w L r bl W) (r' : Loop) : LoopM w L r' bl (W.putObj (L + 1) (.loop r')) := by
  have k : ∀ b, b ≠ L + 1 → (W.putObj (L + 1) (.loop r')).heap[b]? = W.heap[b]? := fun b hb => World.putObj_heap_other hb
  have hlow := h.low
  refine ⟨World.putObj_heap_same h.size, (k _ (by omega)).trans h.dfr, fun x hx => ?_, h.far, h.low, h.below.grown (grownBy_putObj' W (L + 1) (.loop r')) h.below.size (fun k e => by cases e; omega)⟩
  have := h.far x hx
  exact (k _ (by omega)).trans (h.blk x hx)
theorem LoopM.up {w W W' : World} {L : Nat} {r : Loop} {bl : Blocks} (h : LoopM w L r bl W) (hb : Below W.heap.size W W') : LoopM w L r bl W' := by
  have z := h.size
  have k : ∀ b, b ≤ L + 1 → W'.heap[b]? = W.heap[b]? := fun b hb' => hb.block b (by omega)
  refine ⟨(k _ (by omega)).trans h.rcd, (k _ (by omega)).trans h.dfr, fun x hx => ?_, h.far, h.low, h.below.trans (hb.mono h.below.size)⟩
  have := h.far x hx
  exact (k _ (by omega)).trans (h.blk x hx)
/-- One cell is written. -/
theorem LoopM.set_ {w W : World} {L : Nat} {r : Loop} {bl : Blocks} (h : LoopM w L r bl W) (g i : Nat) (u : Value) (bl' : Blocks) (hg : w.heap.size ≤ g ∧ g < L)
    (hb : ∀ x ∈ bl', (x.1 ≠ g ∧ x ∈ bl) ∨ (x.1 = g ∧ ∃ cs, (g, cs, x.2.2) ∈ bl ∧ x.2.1 = cs.setIfInBounds i u)) : LoopM w L r bl' (W.setCell ⟨g, i, none⟩ u) := by
  have k : ∀ c, c ≠ g → (W.setCell ⟨g, i, none⟩ u).heap[c]? = W.heap[c]? := fun c hc => Below.heap_setCell _ _ _ _ hc
  refine ⟨(k _ (by omega)).trans h.rcd, (k _ (by omega)).trans h.dfr, fun x hx => ?_, fun x hx => ?_, h.low, h.below.setCell (p := ⟨g, i, none⟩) hg.1 _⟩
  · rcases hb x hx with ⟨h1, h2⟩ | ⟨h1, cs, h2, h3⟩
    · exact (h.blk x h2).far _ _ (fun e => h1 e.symm)
    · rw [h1, h3]
      exact (h.blk _ h2).set_ i u
  · rcases hb x hx with ⟨h1, h2⟩ | ⟨h1, cs, h2, h3⟩
    · exact h.far x h2
    · rw [h1]; exact hg
/-- Where the statement begins. -/
theorem LoopM.start {w W : World} {bl : Blocks} (r : Loop) (hb : ∀ x ∈ bl, BlkW W x.1 x.2.1 x.2.2) (hf : ∀ x ∈ bl, w.heap.size ≤ x.1) (hW : Below w.heap.size w W) : LoopM w W.heap.size r bl ((W.alloc (.deferred (some []))).alloc (.loop r)) := by
  have d1 := heap_alloc_new W (.deferred (some []))
  have d2 := heap_alloc_new (W.alloc (.deferred (some []))) (.loop r)
  rw [World.size_alloc] at d2
  refine ⟨d2, (Below.heap_alloc _ _ _ (by rw [World.size_alloc]; omega)).trans d1, fun x hx => ((hb x hx).alloc _).alloc _, fun x hx => ⟨hf x hx, (hb x hx).lt⟩, hW.size, (hW.alloc hW.size _).alloc (hW.alloc hW.size _).size _⟩
/-- The mark's block is shut: nothing else turns. -/
theorem LoopM.shut {w W : World} {L : Nat} {r : Loop} {bl : Blocks} (h : LoopM w L r bl W) : (∀ x ∈ bl, BlkW (W.putObj L (.deferred none)) x.1 x.2.1 x.2.2) ∧ Below w.heap.size w (W.putObj L (.deferred none)) := by
  refine ⟨fun x hx => ?_, h.below.grown (grownBy_putObj' _ _ _) h.below.size (fun k e => by cases e; exact h.low)⟩
  have := h.far x hx
  exact (World.putObj_heap_other (by omega)).trans (h.blk x hx)
end Go.Proofs.Ytmgbjkekfejnfaa
