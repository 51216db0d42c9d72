/- Laws: a block of memory that is known whole; an own row kept by a store elsewhere. -/
import Derived.Test.YtmgbjkekfejnfaaPairs
namespace Go.Proofs.Ytmgbjkekfejnfaa
open Go.RowKit Go.Lib
set_option maxRecDepth 100000
set_option linter.unusedVariables false

/-- A block that is known whole. -/
def BlkW (W : World) (g : Nat) (cs : Array Value) (t : TypeId) : Prop := W.heap[g]? = some (.cells cs t (0, 0))
theorem BlkW.lt {W : World} {g : Nat} {cs : Array Value} {t : TypeId} (h : BlkW W g cs t) : g < W.heap.size := by
  rcases Nat.lt_or_ge g W.heap.size with h1 | h1
  · exact h1
  · unfold BlkW at h; rw [Array.getElem?_eq_none h1] at h; cases h
theorem BlkW.cell {W : World} {g : Nat} {cs : Array Value} {t : TypeId} (h : BlkW W g cs t) (i : Nat) : W.cell? ⟨g, i, none⟩ = cs[i]? := by
  unfold BlkW at h
  simp [World.cell?, h]
theorem BlkW.free {W : World} {g : Nat} {cs : Array Value} {t : TypeId} (h : BlkW W g cs t) (i : Nat) : W.frozen? ⟨g, i, none⟩ = false := by
  unfold BlkW at h
  simp [World.frozen?, h]
theorem BlkW.new (W : World) (cs : Array Value) (t : TypeId) : BlkW (W.alloc (.cells cs t)) W.heap.size cs t := heap_alloc_new W _
theorem BlkW.alloc {W : World} {g : Nat} {cs : Array Value} {t : TypeId} (h : BlkW W g cs t) (o : Obj) : BlkW (W.alloc o) g cs t := (heap_alloc_old W o h.lt).trans h
theorem BlkW.grow {W W' : World} {g : Nat} {cs : Array Value} {t : TypeId} {row : Option Nat} (h : BlkW W g cs t) (hg : W.grownBy W' row) (hne : some g ≠ row) : BlkW W' g cs t := (hg.block g h.lt hne).trans h
theorem BlkW.below {W W' : World} {g B : Nat} {cs : Array Value} {t : TypeId} (h : BlkW W g cs t) (hb : Below B W W') (hB : g < B) : BlkW W' g cs t := (hb.block g hB).trans h
theorem BlkW.set_ {W : World} {g : Nat} {cs : Array Value} {t : TypeId} (h : BlkW W g cs t) (i : Nat) (u : Value) : BlkW (W.setCell ⟨g, i, none⟩ u) g (cs.setIfInBounds i u) t := by
  unfold BlkW at h ⊢
  simp [World.setCell, Array.getElem?_modify, h]
theorem BlkW.far {W : World} {g : Nat} {cs : Array Value} {t : TypeId} (h : BlkW W g cs t) (p : Addr) (u : Value) (hp : p.block ≠ g) : BlkW (W.setCell p u) g cs t := by
  unfold BlkW at h ⊢
  simp [World.setCell, Array.getElem?_modify, hp, h]
theorem grow_below {W W' : World} (h : W.grownBy W' none) : Below W.heap.size W W' := (Below.refl _ _).grown h (Nat.le_refl _) (fun k hk => by cases hk)
theorem own_far {w : World} {base : Nat} {e : TypeId} {size : Nat} {v : Value} {n : Nat} {xs : List Value} (h : w.ownsRow base e size v n xs) (p : Addr) (u : Value) (hp : p.block < base) : (w.setCell p u).ownsRow base e size v n xs := by
  obtain ⟨hl, ⟨rfl, h0⟩ | ⟨g, cap, cur, rfl, hb, hg, hn, hc, hcs, ht⟩⟩ := h
  · exact ⟨hl, .inl ⟨rfl, h0⟩⟩
  · have hne : p.block ≠ g := by omega
    exact ⟨hl, .inr ⟨g, cap, cur, rfl, hb, by simp [World.setCell, Array.getElem?_modify, hne, hg], hn, hc, hcs, ht⟩⟩
theorem IsA.grown {w w' : World} {a : Option Addr} {n B : Nat} {ls : List (List UInt8 × List UInt8)} {row : Option Nat} (h : IsA w a n ls) (hg : w.grownBy w' row) (hr : ∀ g, row = some g → B ≤ g) (hB : ∀ x, a = some x → x.block < B) : IsA w' a n ls := by
  refine ⟨h.1, h.2.elim .inl fun ⟨b, off, e, hat⟩ => .inr ⟨b, off, e, fun i l hi => ?_⟩⟩
  obtain ⟨h1, h2⟩ := hat i l hi
  have hlt := World.block_lt_of_cell? _ _ h1
  have hne : some b ≠ row := fun e2 => by have := hr b e2.symm; have := hB _ e; simp at this; omega
  exact ⟨(World.cell?_of_block (hg.block b hlt hne)).trans h1, (World.cell?_of_block (hg.block b hlt hne)).trans h2⟩
theorem own_block {w : World} {base : Nat} {e : TypeId} {size : Nat} {x : Addr} {n c m : Nat} {xs : List Value} (h : w.ownsRow base e size (.slice (some x) n c) m xs) : base ≤ x.block ∧ x.block < w.heap.size := by
  obtain ⟨_, ⟨h0, _⟩ | ⟨g, cap, cur, h0, hb, hg, _⟩⟩ := h
  · cases h0
  · injection h0 with h1
    cases h1
    refine ⟨hb, ?_⟩
    rcases Nat.lt_or_ge g w.heap.size with h2 | h2
    · exact h2
    · rw [Array.getElem?_eq_none h2] at hg; cases hg
theorem tok_store {w W : World} {H B : Nat} {a0 a1 a2 a3 a4 : Value} {T : TypeId} (h : BlkW W H #[a0, a1, a2, a3, a4] T) (hb : Below B w W) (hB : B ≤ H) (b0 b1 b2 b3 b4 : Value) :
    ∃ W', (((((W.setCell ⟨H, 0, none⟩ b0).setCell ⟨H, 1, none⟩ b1).setCell ⟨H, 2, none⟩ b2).setCell ⟨H, 3, none⟩ b3).setCell ⟨H, 4, none⟩ b4) = W' ∧
      W'.cell? ⟨H, 0, none⟩ = some b0 ∧ W'.cell? ⟨H, 1, none⟩ = some b1 ∧ W'.cell? ⟨H, 2, none⟩ = some b2 ∧ W'.cell? ⟨H, 3, none⟩ = some b3 ∧ W'.cell? ⟨H, 4, none⟩ = some b4 ∧ Below B w W' ∧ (∀ k, k ≠ H → W'.heap[k]? = W.heap[k]?) := by
  have h5 := ((((h.set_ 0 b0).set_ 1 b1).set_ 2 b2).set_ 3 b3).set_ 4 b4
  refine ⟨_, rfl, h5.cell 0, h5.cell 1, h5.cell 2, h5.cell 3, h5.cell 4, ((((hb.setCell hB b0).setCell hB b1).setCell hB b2).setCell hB b3).setCell hB b4, fun k hk => ?_⟩
  rw [Below.heap_setCell _ _ _ _ hk, Below.heap_setCell _ _ _ _ hk, Below.heap_setCell _ _ _ _ hk, Below.heap_setCell _ _ _ _ hk, Below.heap_setCell _ _ _ _ hk]
end Go.Proofs.Ytmgbjkekfejnfaa
