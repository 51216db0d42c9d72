/- A list of bytes as a text. Lists of pairs of texts in memory (a struct of two strings), and when two lists are alike. Laws: a block of memory that is known whole; an own row kept by a store elsewhere. Laws: appending lists of attributes to the call's own row. -/
import Derived.Test.YthbklcpjbeelhaaWld
import Derived.Laws.AppendOwnNone
import Derived.Deep.RegionLaw
import Derived.IntWalk
namespace Go.Proofs.Ythbklcpjbeelhaa
open Go.RowKit Go.Lib

def bs (l : List UInt8) : ByteArray := ⟨l.toArray⟩
end Go.Proofs.Ythbklcpjbeelhaa
namespace Go.Proofs.Ythbklcpjbeelhaa
open Go.RowKit Go.Lib
set_option maxRecDepth 100000
set_option linter.unusedVariables false

/-- A list of pairs of texts. -/
def IsA (w : World) (a : Option Addr) (len : Nat) (ls : List (List UInt8 × List UInt8)) : Prop :=
  ls.length = len ∧ (len = 0 ∨ ∃ b off, a = some ⟨b, off, none⟩ ∧ ∀ i x, ls[i]? = some x → w.cell? ⟨b, off + i * 2, none⟩ = some (.string (bs x.1)) ∧ w.cell? ⟨b, off + i * 2 + 1, none⟩ = some (.string (bs x.2)))
theorem IsA.below {w w' : World} {a : Option Addr} {len : Nat} {ls : List (List UInt8 × List UInt8)} (h : IsA w a len ls) (hb : Below w.heap.size w w') : IsA w' a len ls := by
  refine ⟨h.1, h.2.elim .inl fun ⟨b, off, e, hat⟩ => .inr ⟨b, off, e, fun i x hi => ?_⟩⟩
  obtain ⟨h1, h2⟩ := hat i x hi
  have hlt : b < w.heap.size := by
    rcases Nat.lt_or_ge b w.heap.size with h' | h'
    · exact h'
    · simp [World.cell?, Array.getElem?_eq_none h'] at h1
  exact ⟨(hb.cell (p := ⟨b, off + i * 2, none⟩) hlt).trans h1, (hb.cell (p := ⟨b, off + i * 2 + 1, none⟩) hlt).trans h2⟩
theorem IsA.take {w : World} {a : Option Addr} {len : Nat} {ls : List (List UInt8 × List UInt8)} (h : IsA w a len ls) (k : Nat) (hk : k ≤ len) : IsA w a k (ls.take k) := by
  refine ⟨by rw [List.length_take, h.1]; omega, ?_⟩
  rcases h.2 with h0 | ⟨b, off, e, hat⟩
  · exact .inl (by omega)
  · refine .inr ⟨b, off, e, fun i x hi => hat i x ?_⟩
    have hlt : i < (ls.take k).length := (List.getElem?_eq_some_iff.1 hi).1
    rw [List.length_take] at hlt
    rwa [List.getElem?_take_of_lt (by omega)] at hi
theorem bs_inj {x y : List UInt8} (h : (bs x).toList = (bs y).toList) : x = y := by
  rw [ByteArray.toList_eq, ByteArray.toList_eq] at h
  exact h
theorem take_more {α : Type} {l m : List α} {k : Nat} {x : α} (h : l.take k = m.take k) (hl : l[k]? = some x) (hm : m[k]? = some x) : l.take (k + 1) = m.take (k + 1) := by
  rw [List.take_add_one, List.take_add_one, h, hl, hm]
theorem take_all {α : Type} {l m : List α} {k n : Nat} (h : l.take k = m.take k) (hl : l.length = n) (hm : m.length = n) (hk : ¬ k < n) : l = m := by
  rwa [List.take_of_length_le (by omega), List.take_of_length_le (by omega)] at h
theorem get_ne {α : Type} {l m : List α} {k : Nat} {x y : α} (hl : l[k]? = some x) (hm : m[k]? = some y) (h : x ≠ y) : ¬ l = m := by
  intro e
  rw [e, hm] at hl
  exact h (Option.some.inj hl).symm
def pairL (ls : List (List UInt8 × List UInt8)) : List Value := ls.flatMap fun x => [Value.string (bs x.1), Value.string (bs x.2)]
theorem pairL_get : ∀ (ls : List (List UInt8 × List UInt8)) (i : Nat) (x : List UInt8 × List UInt8), ls[i]? = some x → (pairL ls)[i * 2]? = some (.string (bs x.1)) ∧ (pairL ls)[i * 2 + 1]? = some (.string (bs x.2))
  | [], i, x, h => by simp at h
  | y :: t, 0, x, h => by
    simp at h
    subst h
    exact ⟨rfl, rfl⟩
  | y :: t, i + 1, x, h => by
    have h1 := pairL_get t i x (by simpa using h)
    have e : pairL (y :: t) = Value.string (bs y.1) :: Value.string (bs y.2) :: pairL t := rfl
    rw [e, show (i + 1) * 2 = i * 2 + 2 by omega]
    exact ⟨by simpa using h1.1, by simpa using h1.2⟩
theorem pairL_len (ls : List (List UInt8 × List UInt8)) : (pairL ls).length = ls.length * 2 := by
  induction ls with
  | nil => rfl
  | cons a t ih =>
    have e : pairL (a :: t) = Value.string (bs a.1) :: Value.string (bs a.2) :: pairL t := rfl
    rw [e, List.length_cons, List.length_cons, List.length_cons, ih]; omega
theorem pairL_append (a b : List (List UInt8 × List UInt8)) : pairL (a ++ b) = pairL a ++ pairL b := by simp [pairL]
theorem isA_of_cells {W : World} {g : Nat} {ls : List (List UInt8 × List UInt8)} {C : Array Value} {t : TypeId} {fr : Nat × Nat} {n : Nat} (hn : ls.length = n) (h : W.heap[g]? = some (.cells C t fr)) (hC : C.toList = pairL ls) : IsA W (some ⟨g, 0, none⟩) n ls := by
  refine ⟨hn, .inr ⟨g, 0, rfl, fun i x hi => ?_⟩⟩
  obtain ⟨h1, h2⟩ := pairL_get ls i x hi
  rw [← hC, Array.getElem?_toList] at h1 h2
  rw [Nat.zero_add]
  simp only [World.cell?, h]
  exact ⟨by simpa using h1, by simpa using h2⟩
theorem pairs_one (ls : List (List UInt8 × List UInt8)) : ∀ u ∈ pairL ls, u.oneCell' = true := by
  intro u hu
  simp only [pairL, List.mem_flatMap] at hu
  obtain ⟨b, _, hb⟩ := hu
  simp at hb
  rcases hb with rfl | rfl <;> rfl
theorem pairL_at : ∀ (ls : List (List UInt8 × List UInt8)) (j : Nat) (u : Value), (pairL ls)[j]? = some u → ∃ i x, ls[i]? = some x ∧ ((j = i * 2 ∧ u = .string (bs x.1)) ∨ (j = i * 2 + 1 ∧ u = .string (bs x.2)))
  | [], j, u, h => by simp [pairL] at h
  | y :: t, 0, u, h => ⟨0, y, rfl, .inl ⟨rfl, by
      have e : pairL (y :: t) = Value.string (bs y.1) :: Value.string (bs y.2) :: pairL t := rfl
      rw [e] at h
      simpa using h.symm⟩⟩
  | y :: t, 1, u, h => ⟨0, y, rfl, .inr ⟨rfl, by
      have e : pairL (y :: t) = Value.string (bs y.1) :: Value.string (bs y.2) :: pairL t := rfl
      rw [e] at h
      simpa using h.symm⟩⟩
  | y :: t, j + 2, u, h => by
    have e : pairL (y :: t) = Value.string (bs y.1) :: Value.string (bs y.2) :: pairL t := rfl
    rw [e] at h
    obtain ⟨i, x, h1, h2⟩ := pairL_at t j u (by simpa using h)
    exact ⟨i + 1, x, by simpa using h1, h2.imp (fun ⟨a, b⟩ => ⟨by omega, b⟩) (fun ⟨a, b⟩ => ⟨by omega, b⟩)⟩
theorem isA_cells {w : World} {ad : Addr} {n : Nat} {ls : List (List UInt8 × List UInt8)} (h : IsA w (some ad) n ls) : ∀ j u, (pairL ls)[j]? = some u → w.cell? (ad.add j) = some u := by
  intro j u hj
  obtain ⟨i, x, hi, hx⟩ := pairL_at ls j u hj
  rcases h.2 with h0 | ⟨b', o', e, hat⟩
  · have hl : ls = [] := List.length_eq_zero_iff.1 (by rw [h.1, h0])
    subst hl
    cases hi
  · obtain rfl := Option.some.inj e
    obtain ⟨h1, h2⟩ := hat i x hi
    rw [addr_add]
    rcases hx with ⟨rfl, rfl⟩ | ⟨rfl, rfl⟩
    · exact h1
    · rw [← Nat.add_assoc]; exact h2
end Go.Proofs.Ythbklcpjbeelhaa
namespace Go.Proofs.Ythbklcpjbeelhaa
open Go.RowKit Go.Lib
set_option maxRecDepth 100000
set_option linter.unusedVariables false

/-- A block that is known whole. -/
def BlkW (W : World) (g : Nat) (cs : Array Value) (t : TypeId) : Prop := W.heap[g]? = some (.cells cs t (0, 0))
theorem BlkW.lt {W : World} {g : Nat} {cs : Array Value} {t : TypeId} (h : BlkW W g cs t) : g < W.heap.size := by
  rcases Nat.lt_or_ge g W.heap.size with h1 | h1
  · exact h1
  · unfold BlkW at h; rw [Array.getElem?_eq_none h1] at h; cases h
theorem BlkW.cell {W : World} {g : Nat} {cs : Array Value} {t : TypeId} (h : BlkW W g cs t) (i : Nat) : W.cell? ⟨g, i, none⟩ = cs[i]? := by
  unfold BlkW at h
  simp [World.cell?, h]
theorem BlkW.free {W : World} {g : Nat} {cs : Array Value} {t : TypeId} (h : BlkW W g cs t) (i : Nat) : W.frozen? ⟨g, i, none⟩ = false := by
  unfold BlkW at h
  simp [World.frozen?, h]
theorem BlkW.new (W : World) (cs : Array Value) (t : TypeId) : BlkW (W.alloc (.cells cs t)) W.heap.size cs t := heap_alloc_new W _
theorem BlkW.alloc {W : World} {g : Nat} {cs : Array Value} {t : TypeId} (h : BlkW W g cs t) (o : Obj) : BlkW (W.alloc o) g cs t := (heap_alloc_old W o h.lt).trans h
theorem BlkW.grow {W W' : World} {g : Nat} {cs : Array Value} {t : TypeId} {row : Option Nat} (h : BlkW W g cs t) (hg : W.grownBy W' row) (hne : some g ≠ row) : BlkW W' g cs t := (hg.block g h.lt hne).trans h
theorem BlkW.below {W W' : World} {g B : Nat} {cs : Array Value} {t : TypeId} (h : BlkW W g cs t) (hb : Below B W W') (hB : g < B) : BlkW W' g cs t := (hb.block g hB).trans h
theorem BlkW.set_ {W : World} {g : Nat} {cs : Array Value} {t : TypeId} (h : BlkW W g cs t) (i : Nat) (u : Value) : BlkW (W.setCell ⟨g, i, none⟩ u) g (cs.setIfInBounds i u) t := by
  unfold BlkW at h ⊢
  simp [World.setCell, Array.getElem?_modify, h]
theorem BlkW.far {W : World} {g : Nat} {cs : Array Value} {t : TypeId} (h : BlkW W g cs t) (p : Addr) (u : Value) (hp : p.block ≠ g) : BlkW (W.setCell p u) g cs t := by
  unfold BlkW at h ⊢
  simp [World.setCell, Array.getElem?_modify, hp, h]
theorem grow_below {W W' : World} (h : W.grownBy W' none) : Below W.heap.size W W' := (Below.refl _ _).grown h (Nat.le_refl _) (fun k hk => by cases hk)
theorem own_far {w : World} {base : Nat} {e : TypeId} {size : Nat} {v : Value} {n : Nat} {xs : List Value} (h : w.ownsRow base e size v n xs) (p : Addr) (u : Value) (hp : p.block < base) : (w.setCell p u).ownsRow base e size v n xs := by
  obtain ⟨hl, ⟨rfl, h0⟩ | ⟨g, cap, cur, rfl, hb, hg, hn, hc, hcs, ht⟩⟩ := h
  · exact ⟨hl, .inl ⟨rfl, h0⟩⟩
  · have hne : p.block ≠ g := by omega
    exact ⟨hl, .inr ⟨g, cap, cur, rfl, hb, by simp [World.setCell, Array.getElem?_modify, hne, hg], hn, hc, hcs, ht⟩⟩
theorem IsA.grown {w w' : World} {a : Option Addr} {n B : Nat} {ls : List (List UInt8 × List UInt8)} {row : Option Nat} (h : IsA w a n ls) (hg : w.grownBy w' row) (hr : ∀ g, row = some g → B ≤ g) (hB : ∀ x, a = some x → x.block < B) : IsA w' a n ls := by
  refine ⟨h.1, h.2.elim .inl fun ⟨b, off, e, hat⟩ => .inr ⟨b, off, e, fun i l hi => ?_⟩⟩
  obtain ⟨h1, h2⟩ := hat i l hi
  have hlt := World.block_lt_of_cell? _ _ h1
  have hne : some b ≠ row := fun e2 => by have := hr b e2.symm; have := hB _ e; simp at this; omega
  exact ⟨(World.cell?_of_block (hg.block b hlt hne)).trans h1, (World.cell?_of_block (hg.block b hlt hne)).trans h2⟩
theorem own_block {w : World} {base : Nat} {e : TypeId} {size : Nat} {x : Addr} {n c m : Nat} {xs : List Value} (h : w.ownsRow base e size (.slice (some x) n c) m xs) : base ≤ x.block ∧ x.block < w.heap.size := by
  obtain ⟨_, ⟨h0, _⟩ | ⟨g, cap, cur, h0, hb, hg, _⟩⟩ := h
  · cases h0
  · injection h0 with h1
    cases h1
    refine ⟨hb, ?_⟩
    rcases Nat.lt_or_ge g w.heap.size with h2 | h2
    · exact h2
    · rw [Array.getElem?_eq_none h2] at hg; cases hg
theorem tok_store {w W : World} {H B : Nat} {a0 a1 a2 a3 a4 : Value} {T : TypeId} (h : BlkW W H #[a0, a1, a2, a3, a4] T) (hb : Below B w W) (hB : B ≤ H) (b0 b1 b2 b3 b4 : Value) :
    ∃ W', (((((W.setCell ⟨H, 0, none⟩ b0).setCell ⟨H, 1, none⟩ b1).setCell ⟨H, 2, none⟩ b2).setCell ⟨H, 3, none⟩ b3).setCell ⟨H, 4, none⟩ b4) = W' ∧
      W'.cell? ⟨H, 0, none⟩ = some b0 ∧ W'.cell? ⟨H, 1, none⟩ = some b1 ∧ W'.cell? ⟨H, 2, none⟩ = some b2 ∧ W'.cell? ⟨H, 3, none⟩ = some b3 ∧ W'.cell? ⟨H, 4, none⟩ = some b4 ∧ Below B w W' ∧ (∀ k, k ≠ H → W'.heap[k]? = W.heap[k]?) := by
  have h5 := ((((h.set_ 0 b0).set_ 1 b1).set_ 2 b2).set_ 3 b3).set_ 4 b4
  refine ⟨_, rfl, h5.cell 0, h5.cell 1, h5.cell 2, h5.cell 3, h5.cell 4, ((((hb.setCell hB b0).setCell hB b1).setCell hB b2).setCell hB b3).setCell hB b4, fun k hk => ?_⟩
  rw [Below.heap_setCell _ _ _ _ hk, Below.heap_setCell _ _ _ _ hk, Below.heap_setCell _ _ _ _ hk, Below.heap_setCell _ _ _ _ hk, Below.heap_setCell _ _ _ _ hk]
end Go.Proofs.Ythbklcpjbeelhaa
namespace Go.Proofs.Ythbklcpjbeelhaa
open Go.RowKit Go.Lib
set_option maxRecDepth 100000
set_option linter.unusedVariables false

theorem info_attr : (Try.prog.info? 67).map (fun i => (i.zero, i.size, i.bytes)) = some (some (.agg #[.string ⟨#[]⟩, .string ⟨#[]⟩]), 2, 32) := by kernel_rfl
theorem own_isT' {w : World} {base : Nat} {v : Value} {ls : List (List UInt8 × List UInt8)} (h : w.ownsRow base 67 2 v ls.length (pairL ls)) :
    ∃ a cap, v = .slice a ls.length cap ∧ IsA w a ls.length ls ∧ ls.length ≤ cap ∧ cap ≤ maxLen ∧ (∀ x, a = some x → base ≤ x.block) ∧ (a = none → cap = 0) := by
  obtain ⟨_, ⟨rfl, h0⟩ | ⟨g, cap, cur, rfl, hb, hg, hn, hc, hcs, ht⟩⟩ := h
  · exact ⟨none, 0, by rw [h0], ⟨rfl, .inl h0⟩, by omega, by unfold maxLen; omega, (fun x e => by cases e), fun _ => rfl⟩
  · refine ⟨_, cap, rfl, ⟨rfl, .inr ⟨g, 0, rfl, fun i x hi => ?_⟩⟩, hn, hc, (fun x e => by cases e; exact hb), (fun e => by cases e)⟩
    have hlt : i < ls.length := (List.getElem?_eq_some_iff.1 hi).1
    obtain ⟨h1, h2⟩ := pairL_get ls i x hi
    rw [← ht, List.getElem?_take_of_lt (by omega)] at h1 h2
    simp only [World.cell?, Nat.zero_add, hg]
    exact ⟨by simpa using h1, by simpa using h2⟩
/-- The block that a list of attributes lies in is one of attributes. -/
def TypB (w : World) (a : Option Addr) : Prop := ∀ x, a = some x → ∃ cs fr, w.heap[x.block]? = some (.cells cs 67 fr)
theorem own_typ {w : World} {base m n cp : Nat} {ad : Option Addr} {xs : List Value} (h : w.ownsRow base 67 2 (.slice ad n cp) m xs) : TypB w ad := by
  obtain ⟨_, ⟨e, _⟩ | ⟨g, cap, cur, e, _, hg, _⟩⟩ := h
  · cases e
    exact fun x hx => by cases hx
  · cases e
    exact fun x hx => by cases hx; exact ⟨cur, (0, 0), hg⟩
theorem TypB.heap {w w' : World} {a : Option Addr} (h : TypB w a) (hb : ∀ x, a = some x → w'.heap[x.block]? = w.heap[x.block]?) : TypB w' a := fun x hx => by
  rw [hb x hx]
  exact h x hx
theorem TypB.lt {w : World} {a : Option Addr} (h : TypB w a) (x : Addr) (hx : a = some x) : x.block < w.heap.size := by
  obtain ⟨cs, fr, hc⟩ := h x hx
  rcases Nat.lt_or_ge x.block w.heap.size with h1 | h1
  · exact h1
  · rw [Array.getElem?_eq_none h1] at hc; cases hc
theorem TypB.below {w w' : World} {a : Option Addr} (h : TypB w a) (hb : Below w.heap.size w w') : TypB w' a := h.heap fun x hx => hb.block _ (h.lt x hx)
/-- A block of another type is not theirs. -/
theorem TypB.ne {w : World} {a : Option Addr} {g : Nat} {cs : Array Value} {T : TypeId} {fr : Nat × Nat} (h : TypB w a) (hg : w.heap[g]? = some (.cells cs T fr)) (hT : T ≠ 67) (x : Addr) (hx : a = some x) : x.block ≠ g := by
  obtain ⟨cs', fr', hc⟩ := h x hx
  intro e
  rw [e, hg] at hc
  cases hc
  exact hT rfl
theorem append_T {w : World} {ops : Array Oper} {rest : List Oper} {o : Oper} {a : Act} {Q : Exit → Act → World → Prop} (hgd : o.guard = none) (s x : Operand)
    (ho : o.op = .call { callee := .builtin .append, args := #[s, x], argTypes := #[29, 29] })
    (base : Nat) (v : Value) (acc : List (List UInt8 × List UInt8)) (hs : a.eval s = v) (hown : w.ownsRow base 67 2 v acc.length (pairL acc))
    (ad : Option Addr) (m c : Nat) (new : List (List UInt8 × List UInt8)) (hx : a.eval x = .slice ad m c) (hS : IsA w ad m new) (hn : ad = none → c = 0)
    (hlen : acc.length + m ≤ 4294967296) (hbase : base ≤ w.heap.size)
    (h : ∀ v' w', w'.ownsRow base 67 2 v' (acc ++ new).length (pairL (acc ++ new)) → w.grownBy w' v.ownBlock → wpList Try.prog ops Q rest (a.put o.dst v') w') : wpList Try.prog ops Q (o :: rest) a w := by
  obtain ⟨i0, hi, hz0, hz1, hz2⟩ := info_parts info_attr
  cases ad with
  | none =>
    have hc := hn rfl
    subst hc
    have hm : m = 0 := hS.2.elim id fun ⟨b, off, e, _⟩ => by cases e
    subst hm
    have hnew : new = [] := List.length_eq_zero_iff.1 hS.1
    subst hnew
    refine wpList_append_own_none hgd s x 29 ho base 67 i0 2 Try.underlying29 hi v acc.length (pairL acc) hs hown hx (h v w ?_ (World.grownBy.refl _ _))
    rw [List.append_nil]
    exact hown
  | some ad =>
    have hcl := isA_cells hS
    refine wpList_append_own w hgd s x 29 ho base 67 i0 (.agg #[.string ⟨#[]⟩, .string ⟨#[]⟩]) 2 32 Try.underlying29 hi hz0 hz1 hz2 rfl (by decide) v acc.length (pairL acc) hs hown ad m c (pairL new) hx (by rw [pairL_len, hS.1]) hcl (pairs_one new) (by unfold maxLen; omega) (by omega) hbase ?_
    intro v' w' h1 h2 _
    refine h v' w' ?_ h2
    rw [List.length_append, pairL_append, hS.1]
    exact h1
theorem step_T1 {w : World} {ops : Array Oper} {o : Oper} {a : Act} {K : Act → World → Prop} {Q : Exit → Act → World → Prop} {E : Prop} (hgd : o.guard = none) (s x : Operand)
    (ho : o.op = .call { callee := .builtin .append, args := #[s, x], argTypes := #[29, 29] })
    (base : Nat) (v : Value) (acc : List (List UInt8 × List UInt8)) (hs : a.eval s = v) (hown : w.ownsRow base 67 2 v acc.length (pairL acc))
    (ad : Addr) (c : Nat) (l : List UInt8 × List UInt8) (hx : a.eval x = .slice (some ad) 1 c) (hnew : w.cell? (ad.add 0) = some (.string (bs l.1))) (hnew2 : w.cell? (ad.add 1) = some (.string (bs l.2)))
    (hlen : acc.length + 1 ≤ 4294967296) (hbase : base ≤ w.heap.size)
    (h : ∀ v' w', w'.ownsRow base 67 2 v' (acc ++ [l]).length (pairL (acc ++ [l])) → w.grownBy w' v.ownBlock → K (a.put o.dst v') w') :
    if Region.wanted o (yielded ops a.tmps) = true then Oper.wp Try.prog o a w K Q else E := by
  have hw : Region.wanted o (yielded ops a.tmps) = true := by simp [Region.wanted, hgd]
  rw [if_pos hw]
  obtain ⟨i0, hi, hz0, hz1, hz2⟩ := info_parts info_attr
  refine wp_append_own w s x 29 ho base 67 i0 (.agg #[.string ⟨#[]⟩, .string ⟨#[]⟩]) 2 32 Try.underlying29 hi hz0 hz1 hz2 rfl (by decide) v acc.length (pairL acc) hs hown ad 1 c (pairL [l]) hx rfl ?_ (pairs_one [l]) (by unfold maxLen; omega) (by omega) hbase ?_
  · intro j u hj
    match j, hj with
    | 0, hj =>
      simp [pairL] at hj
      subst hj
      exact hnew
    | 1, hj =>
      simp [pairL] at hj
      subst hj
      exact hnew2
    | j + 2, hj => simp [pairL] at hj
  · intro v' w' h1 h2 _
    refine h v' w' ?_ h2
    rw [List.length_append, pairL_append]
    exact h1
end Go.Proofs.Ythbklcpjbeelhaa
