/- Laws: a block of memory that is known whole; an own row kept by a store elsewhere. What holds above a world. The reference's tree in memory, as its calls read it. A list of open elements in memory. Laws on slices of bytes that the call itself made: appending, reading them as a text. Walks over the reference of layer 13: point. Written by tools/gen_rpoint.py. Marks in memory: a row of structs of three cells; their attributes in lists of their own. -/
import Derived.Test.YtlgmjnnfndedbaaAppT
import Derived.Test.YtlgmjnnfndedbaaTreeNd
import Derived.Test.YtlgmjnnfndedbaaNodeM
import Derived.Test.YtlgmjnnfndedbaaOpenIn
import Derived.Test.YtlgmjnnfndedbaaClsLet
import Derived.Test.YtlgmjnnfndedbaaPlaceHo
import Derived.Deep.LoopGhost
import Derived.IntWalk
namespace Go.Proofs.Ytlgmjnnfndedbaa
open Go.RowKit Go.Lib
set_option maxRecDepth 100000
set_option linter.unusedVariables false

/-- A block that is known whole. -/
def BlkW (W : World) (g : Nat) (cs : Array Value) (t : TypeId) : Prop := W.heap[g]? = some (.cells cs t (0, 0))
theorem BlkW.lt {W : World} {g : Nat} {cs : Array Value} {t : TypeId} (h : BlkW W g cs t) : g < W.heap.size := by
  rcases Nat.lt_or_ge g W.heap.size with h1 | h1
  · exact h1
  · unfold BlkW at h; rw [Array.getElem?_eq_none h1] at h; cases h
theorem BlkW.cell {W : World} {g : Nat} {cs : Array Value} {t : TypeId} (h : BlkW W g cs t) (i : Nat) : W.cell? ⟨g, i, none⟩ = cs[i]? := by
  unfold BlkW at h
  simp [World.cell?, h]
theorem BlkW.free {W : World} {g : Nat} {cs : Array Value} {t : TypeId} (h : BlkW W g cs t) (i : Nat) : W.frozen? ⟨g, i, none⟩ = false := by
  unfold BlkW at h
  simp [World.frozen?, h]
theorem BlkW.new (W : World) (cs : Array Value) (t : TypeId) : BlkW (W.alloc (.cells cs t)) W.heap.size cs t := heap_alloc_new W _
theorem BlkW.alloc {W : World} {g : Nat} {cs : Array Value} {t : TypeId} (h : BlkW W g cs t) (o : Obj) : BlkW (W.alloc o) g cs t := (heap_alloc_old W o h.lt).trans h
theorem BlkW.grow {W W' : World} {g : Nat} {cs : Array Value} {t : TypeId} {row : Option Nat} (h : BlkW W g cs t) (hg : W.grownBy W' row) (hne : some g ≠ row) : BlkW W' g cs t := (hg.block g h.lt hne).trans h
theorem BlkW.below {W W' : World} {g B : Nat} {cs : Array Value} {t : TypeId} (h : BlkW W g cs t) (hb : Below B W W') (hB : g < B) : BlkW W' g cs t := (hb.block g hB).trans h
theorem BlkW.set_ {W : World} {g : Nat} {cs : Array Value} {t : TypeId} (h : BlkW W g cs t) (i : Nat) (u : Value) : BlkW (W.setCell ⟨g, i, none⟩ u) g (cs.setIfInBounds i u) t := by
  unfold BlkW at h ⊢
  simp [World.setCell, Array.getElem?_modify, h]
theorem BlkW.far {W : World} {g : Nat} {cs : Array Value} {t : TypeId} (h : BlkW W g cs t) (p : Addr) (u : Value) (hp : p.block ≠ g) : BlkW (W.setCell p u) g cs t := by
  unfold BlkW at h ⊢
  simp [World.setCell, Array.getElem?_modify, hp, h]
theorem IsA.grown {w w' : World} {a : Option Addr} {n B : Nat} {ls : List (List UInt8 × List UInt8)} {row : Option Nat} (h : IsA w a n ls) (hg : w.grownBy w' row) (hr : ∀ g, row = some g → B ≤ g) (hB : ∀ x, a = some x → x.block < B) : IsA w' a n ls := by
  refine ⟨h.1, h.2.elim .inl fun ⟨b, off, e, hat⟩ => .inr ⟨b, off, e, fun i l hi => ?_⟩⟩
  obtain ⟨h1, h2⟩ := hat i l hi
  have hlt := World.block_lt_of_cell? _ _ h1
  have hne : some b ≠ row := fun e2 => by have := hr b e2.symm; have := hB _ e; simp at this; omega
  exact ⟨(World.cell?_of_block (hg.block b hlt hne)).trans h1, (World.cell?_of_block (hg.block b hlt hne)).trans h2⟩
end Go.Proofs.Ytlgmjnnfndedbaa
namespace Go.Proofs.Ytlgmjnnfndedbaa
open Go.RowKit Go.Lib

theorem cell_up {w w' : World} {a : Addr} {v : Value} (h : w.cell? a = some v) (hb : Below w.heap.size w w') : w'.cell? a = some v := (hb.cell (World.block_lt_of_cell? _ _ h)).trans h
end Go.Proofs.Ytlgmjnnfndedbaa
namespace Go.Proofs.Ytlgmjnnfndedbaa
open Go.RowKit Go.Lib
set_option maxRecDepth 100000
set_option linter.unusedVariables false

/-- A list of numbers in memory. -/
def IsZ (w : World) (a : Option Addr) (n : Nat) (l : List Nat) : Prop := l.length = n ∧ (n = 0 ∨ ∃ b off, a = some ⟨b, off, none⟩ ∧ ∀ (i x : Nat), l[i]? = some x → w.cell? ⟨b, off + i, none⟩ = some (.int .i64 (x : Nat)))
end Go.Proofs.Ytlgmjnnfndedbaa
namespace Go.Proofs.Ytlgmjnnfndedbaa
open Go.RowKit Go.Lib
set_option maxRecDepth 100000
set_option linter.unusedVariables false
/-- A list of elements in memory. -/
def IsE (w : World) (a : Option Addr) (len : Nat) (l : List Opn.E) : Prop :=
  l.length = len ∧ (len = 0 ∨ ∃ b off, a = some ⟨b, off, none⟩ ∧ ∀ i x, l[i]? = some x → w.cell? ⟨b, off + i * 4, none⟩ = some (.int .i64 x.id) ∧ w.cell? ⟨b, off + i * 4 + 1, none⟩ = some (.int .u8 x.space) ∧
    w.cell? ⟨b, off + i * 4 + 2, none⟩ = some (.string (bs x.name)) ∧ w.cell? ⟨b, off + i * 4 + 3, none⟩ = some (.int .u8 x.point))
theorem IsE.below {w w' : World} {a : Option Addr} {len : Nat} {l : List Opn.E} (h : IsE w a len l) (hb : Below w.heap.size w w') : IsE w' a len l := by
  refine ⟨h.1, h.2.elim .inl fun ⟨b, off, e, hat⟩ => .inr ⟨b, off, e, fun i x hi => ?_⟩⟩
  have up : ∀ {p : Addr} {v : Value}, w.cell? p = some v → w'.cell? p = some v := fun hc => (hb.cell (World.block_lt_of_cell? _ _ hc)).trans hc
  obtain ⟨h0, h1, h2, h3⟩ := hat i x hi
  exact ⟨up h0, up h1, up h2, up h3⟩
end Go.Proofs.Ytlgmjnnfndedbaa
namespace Go.Proofs.Ytlgmjnnfndedbaa
open Go.RowKit Go.Lib
set_option maxRecDepth 100000
set_option linter.unusedVariables false

theorem info_u8 : (Try.prog.info? 5).map (fun i => (i.zero, i.size, i.bytes)) = some (some (.int .u8 0), 1, 1) := by kernel_rfl

theorem byteCells_get (l : List UInt8) (j : Nat) : (byteCells l)[j]? = (l[j]?).map fun b => Value.int .u8 (b.toNat : Int) := by
  simp [byteCells]
theorem byteCells_len (l : List UInt8) : (byteCells l).length = l.length := byteCells_length l

theorem IsB.below {w w' : World} {a : Option Addr} {len : Nat} {l : List UInt8} (h : IsB w a len l) (hb : Below w.heap.size w w') : IsB w' a len l := by
  refine ⟨h.1, h.2.elim .inl fun ⟨b, off, e, hat⟩ => ?_⟩
  by_cases h0 : l = []
  · subst h0; exact .inl h.1.symm
  · have hlt : b < w.heap.size := by
      have := hat 0 (by cases l with
        | nil => exact absurd rfl h0
        | cons a r => simp)
      rcases Nat.lt_or_ge b w.heap.size with h' | h'
      · exact h'
      · simp [World.cell?, Array.getElem?_eq_none h'] at this
    exact .inr ⟨b, off, e, fun i hi => (hb.cell (p := ⟨b, off + i, none⟩) hlt).trans (hat i hi)⟩
/-- The slice that '[]byte(s)' makes. -/
theorem isB_made (w : World) (s : ByteArray) (c : Nat) (fr : Nat × Nat) : IsB (w.drew.alloc (.cells (bytesRow s c) 5 fr)) (some ⟨w.heap.size, 0, none⟩) s.size s.data.toList := by
  refine ⟨size_list s, .inr ⟨w.heap.size, 0, rfl, fun i hi => ?_⟩⟩
  have hsz : w.drew.heap.size = w.heap.size := rfl
  rw [Nat.zero_add, ← hsz, World.cell?_alloc_mark]
  have hi' : i < s.data.size := by simpa using hi
  unfold bytesRow
  rw [Array.getElem?_append_left (by simpa using hi')]
  simp only [Array.getElem?_map, Array.getElem?_eq_getElem hi', Option.map_some]
  rw [U8.B_eq (c := s.data[i]) (by rw [Array.getElem?_toList, Array.getElem?_eq_getElem hi'])]
end Go.Proofs.Ytlgmjnnfndedbaa
namespace Go.Proofs.Ytlgmjnnfndedbaa
open Go.RowKit Go.Lib
set_option maxRecDepth 100000
set_option linter.unusedVariables false
theorem bs_nameB {nm l : List UInt8} : ((bs nm).toList == l) = decide (nm = l) := by
  rw [show (bs nm).toList = nm by rw [ByteArray.toList_eq]; rfl]
  by_cases h : nm = l
  · rw [decide_eq_true h, h]; exact beq_self_eq_true l
  · rw [decide_eq_false h]; exact beq_eq_false_iff_ne.2 h
end Go.Proofs.Ytlgmjnnfndedbaa
namespace Go.Proofs.Ytlgmjnnfndedbaa
open Go.RowKit Go.Lib
set_option maxRecDepth 100000
set_option linter.unusedVariables false
/-- A mark's cells. -/
structure MR where
  id : Int
  name : List UInt8
  aa : Option Addr
  an : Nat
  ac : Nat
def MR.cells (r : MR) : Array Value := #[.int .i64 r.id, .string (bs r.name), .slice r.aa r.an r.ac]
/-- It is that mark. -/
structure FitM (w : World) (r : MR) (x : Mk.M) : Prop where
  id : r.id = x.id
  name : r.name = x.name
  atts : IsA w r.aa r.an x.atts
  cap : r.an ≤ r.ac
  cap2 : r.ac ≤ 9223372036854775807
  nil : r.aa = none → r.ac = 0
theorem FitM.few {w : World} {r : MR} {x : Mk.M} (h : FitM w r x) : r.an ≤ 9223372036854775807 := Nat.le_trans h.cap h.cap2
theorem FitM.below {w w' : World} {r : MR} {x : Mk.M} (h : FitM w r x) (hb : Below w.heap.size w w') : FitM w' r x := { h with atts := h.atts.below hb }
def AttsM (w : World) (rs : List MR) (xs : List Mk.M) : Prop := rs.length = xs.length ∧ ∀ (i : Nat) r x, rs[i]? = some r → xs[i]? = some x → FitM w r x
theorem AttsM.below {w w' : World} {rs : List MR} {xs : List Mk.M} (h : AttsM w rs xs) (hb : Below w.heap.size w w') : AttsM w' rs xs := ⟨h.1, fun i r x hr hx => (h.2 i r x hr hx).below hb⟩
theorem AttsM.nil (w : World) : AttsM w [] [] := ⟨rfl, fun i r x hr => by simp at hr⟩
theorem AttsM.snoc {w : World} {rs : List MR} {xs : List Mk.M} {r : MR} {x : Mk.M} (h : AttsM w rs xs) (f : FitM w r x) : AttsM w (rs ++ [r]) (xs ++ [x]) := by
  refine ⟨by simp [h.1], fun i r' x' hr hx => ?_⟩
  by_cases hi : i < rs.length
  · rw [List.getElem?_append_left hi] at hr
    rw [List.getElem?_append_left (by rw [← h.1]; exact hi)] at hx
    exact h.2 i r' x' hr hx
  · rw [List.getElem?_append_right (by omega)] at hr
    rw [List.getElem?_append_right (by have := h.1; omega), ← h.1] at hx
    cases hk : i - rs.length with
    | zero => rw [hk] at hr hx; simp at hr hx; subst hr; subst hx; exact f
    | succ k => rw [hk] at hr; simp at hr
theorem AttsM.keep {w : World} {rs : List MR} {xs : List Mk.M} (h : AttsM w rs xs) (skip : Int) : ∀ k, AttsM w (Mk.keepK rs skip k) (Mk.keepK xs skip k)
  | 0 => .nil w
  | k + 1 => by
    cases hr : rs[k]? with
    | none =>
      have hx : xs[k]? = none := by rw [List.getElem?_eq_none_iff] at hr ⊢; have := h.1; omega
      conv => arg 2; unfold Mk.keepK
      conv => arg 3; unfold Mk.keepK
      rw [hr, hx]
      exact h.keep skip k
    | some r =>
      obtain ⟨x, hx⟩ : ∃ x, xs[k]? = some x := ⟨_, List.getElem?_eq_getElem (by have := h.1; have := (List.getElem?_eq_some_iff.1 hr).1; omega)⟩
      rw [Mk.keepK_step hr, Mk.keepK_step hx]
      by_cases hs : (k : Int) = skip
      · rw [if_pos hs, if_pos hs]; exact h.keep skip k
      · rw [if_neg hs, if_neg hs]; exact (h.keep skip k).snoc (h.2 k r x hr hx)
theorem AttsM.take {w : World} {rs : List MR} {xs : List Mk.M} (h : AttsM w rs xs) (k : Nat) : AttsM w (rs.take k) (xs.take k) := by
  have := h.keep (-1) k
  rwa [Mk.keepK_none, Mk.keepK_none] at this
/-! ### Rows that the call itself has made -/
def mL (rs : List MR) : List Value := rs.flatMap fun r => [.int .i64 r.id, .string (bs r.name), .slice r.aa r.an r.ac]
end Go.Proofs.Ytlgmjnnfndedbaa
