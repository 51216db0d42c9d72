/- Laws for a policy that the call itself makes, list by list: steps of regions that draw their order, and what stays. -/
import Derived.Test.YtpheaepifjcmiaaDoorLent
import Derived.Deep.RegionLaw
import Derived.IntWalk
namespace Go.Proofs.YtpheaepifjcmiaaDoor
open Go.RowKit Go.Lib Rule
set_option maxRecDepth 100000
set_option linter.unusedVariables false

theorem own_far {w : World} {base : Nat} {e : TypeId} {size : Nat} {v : Value} {n : Nat} {xs : List Value} (h : w.ownsRow base e size v n xs) (p : Addr) (u : Value) (hp : p.block < base) : (w.setCell p u).ownsRow base e size v n xs := by
  obtain ⟨hl, ⟨rfl, h0⟩ | ⟨g, cap, cur, rfl, hb, hg, hn, hc, hcs, ht⟩⟩ := h
  · exact ⟨hl, .inl ⟨rfl, h0⟩⟩
  · have hne : p.block ≠ g := by omega
    exact ⟨hl, .inr ⟨g, cap, cur, rfl, hb, by simp [World.setCell, Array.getElem?_modify, hne, hg], hn, hc, hcs, ht⟩⟩
theorem IsS.grown {w w' : World} {a : Option Addr} {n B : Nat} {ls : List (List UInt8)} {row : Option Nat} (h : IsS w a n ls) (hg : w.grownBy w' row) (hr : ∀ g, row = some g → B ≤ g) (hB : ∀ x, a = some x → x.block < B) : IsS w' a n ls := by
  refine ⟨h.1, h.2.elim .inl fun ⟨b, off, e, hat⟩ => .inr ⟨b, off, e, fun i l hi => ?_⟩⟩
  have h1 := hat i l hi
  have hlt := World.block_lt_of_cell? _ _ h1
  rw [← h1]
  exact World.cell?_of_block (hg.block b hlt (fun e2 => by have := hr b e2.symm; have := hB _ e; simp at this; omega))
theorem IsA.grown {w w' : World} {a : Option Addr} {n B : Nat} {ls : List (List UInt8 × List UInt8)} {row : Option Nat} (h : IsA w a n ls) (hg : w.grownBy w' row) (hr : ∀ g, row = some g → B ≤ g) (hB : ∀ x, a = some x → x.block < B) : IsA w' a n ls := by
  refine ⟨h.1, h.2.elim .inl fun ⟨b, off, e, hat⟩ => .inr ⟨b, off, e, fun i l hi => ?_⟩⟩
  obtain ⟨h1, h2⟩ := hat i l hi
  have hlt := World.block_lt_of_cell? _ _ h1
  have hne : some b ≠ row := fun e2 => by have := hr b e2.symm; have := hB _ e; simp at this; omega
  exact ⟨(World.cell?_of_block (hg.block b hlt hne)).trans h1, (World.cell?_of_block (hg.block b hlt hne)).trans h2⟩
/-- The call's own policy, at Q: made since w. -/
structure OrdW (w W : World) (Q : Nat) (q0 q1 q2 : Value) : Prop where
  below : Below w.heap.size w W
  bq : BlkW W Q #[q0, q1, q2] 25
  lt : w.heap.size ≤ Q
section
variable {w W W' : World} {Q : Nat} {q0 q1 q2 : Value}
theorem OrdW.drew (h : OrdW w W Q q0 q1 q2) : OrdW w W.drew Q q0 q1 q2 := ⟨h.below.drew, h.bq, h.lt⟩
theorem OrdW.alloc (h : OrdW w W Q q0 q1 q2) (o : Obj) : OrdW w (W.alloc o) Q q0 q1 q2 := ⟨h.below.alloc h.below.size o, h.bq.alloc o, h.lt⟩
theorem OrdW.grown {row : Option Nat} (h : OrdW w W Q q0 q1 q2) (hg : W.grownBy W' row) (hr : ∀ g, row = some g → Q + 1 ≤ g) : OrdW w W' Q q0 q1 q2 :=
  ⟨h.below.grown hg h.below.size (fun k hk => by have := hr k hk; have := h.lt; omega), h.bq.grow hg (fun e => by have := hr _ e.symm; omega), h.lt⟩
theorem OrdW.next (h : OrdW w W Q q0 q1 q2) (hb : Below W.heap.size W W') : OrdW w W' Q q0 q1 q2 :=
  ⟨h.below.trans (hb.mono h.below.size), h.bq.below hb h.bq.lt, h.lt⟩
theorem OrdW.set0 (h : OrdW w W Q q0 q1 q2) (u : Value) : OrdW w (W.setCell ⟨Q, 0, none⟩ u) Q u q1 q2 := ⟨h.below.setCell h.lt u, h.bq.set_ 0 u, h.lt⟩
theorem OrdW.set1 (h : OrdW w W Q q0 q1 q2) (u : Value) : OrdW w (W.setCell ⟨Q, 1, none⟩ u) Q q0 u q2 := ⟨h.below.setCell h.lt u, h.bq.set_ 1 u, h.lt⟩
theorem OrdW.set2 (h : OrdW w W Q q0 q1 q2) (u : Value) : OrdW w (W.setCell ⟨Q, 2, none⟩ u) Q q0 q1 u := ⟨h.below.setCell h.lt u, h.bq.set_ 2 u, h.lt⟩
end
theorem own_block {w : World} {base : Nat} {e : TypeId} {size : Nat} {x : Addr} {n c m : Nat} {xs : List Value} (h : w.ownsRow base e size (.slice (some x) n c) m xs) : base ≤ x.block ∧ x.block < w.heap.size := by
  obtain ⟨_, ⟨h0, _⟩ | ⟨g, cap, cur, h0, hb, hg, _⟩⟩ := h
  · cases h0
  · injection h0 with h1
    cases h1
    refine ⟨hb, ?_⟩
    rcases Nat.lt_or_ge g w.heap.size with h2 | h2
    · exact h2
    · rw [Array.getElem?_eq_none h2] at hg; cases hg
theorem step_S1 {w : World} {ops : Array Oper} {o : Oper} {a : Act} {K : Act → World → Prop} {Q : Exit → Act → World → Prop} {E : Prop} (hgd : o.guard = none) (s x : Operand)
    (ho : o.op = .call { callee := .builtin .append, args := #[s, x], argTypes := #[22, 22] })
    (base : Nat) (v : Value) (acc : List (List UInt8)) (hs : a.eval s = v) (hown : w.ownsRow base 9 1 v acc.length (strsL acc))
    (ad : Addr) (c : Nat) (l : List UInt8) (hx : a.eval x = .slice (some ad) 1 c) (hnew : w.cell? (ad.add 0) = some (.string (bs l)))
    (hlen : acc.length + 1 ≤ 8589934592) (hbase : base ≤ w.heap.size)
    (h : ∀ v' w', w'.ownsRow base 9 1 v' (acc ++ [l]).length (strsL (acc ++ [l])) → w.grownBy w' v.ownBlock → K (a.put o.dst v') w') :
    if Region.wanted o (yielded ops a.tmps) = true then Oper.wp Tryd.prog o a w K Q else E := by
  have hw : Region.wanted o (yielded ops a.tmps) = true := by simp [Region.wanted, hgd]
  rw [if_pos hw]
  obtain ⟨i0, hi, hz0, hz1, hz2⟩ := info_parts info_str
  refine wp_append_own w s x 22 ho base 9 i0 (.string ⟨#[]⟩) 1 16 Tryd.underlying22 hi hz0 hz1 hz2 rfl (by decide) v acc.length (strsL acc) hs hown ad 1 c (strsL [l]) hx rfl ?_ (strs_one [l]) (by unfold maxLen; omega) (by omega) hbase ?_
  · intro j u hj
    match j, hj with
    | 0, hj =>
      simp [strsL] at hj
      subst hj
      exact hnew
    | j + 1, hj => simp [strsL] at hj
  · intro v' w' h1 h2 _
    refine h v' w' ?_ h2
    rw [List.length_append, strsL_append]
    exact h1
theorem step_A1 {w : World} {ops : Array Oper} {o : Oper} {a : Act} {K : Act → World → Prop} {Q : Exit → Act → World → Prop} {E : Prop} (hgd : o.guard = none) (s x : Operand)
    (ho : o.op = .call { callee := .builtin .append, args := #[s, x], argTypes := #[23, 23] })
    (base : Nat) (v : Value) (acc : List (List UInt8 × List UInt8)) (hs : a.eval s = v) (hown : w.ownsRow base 36 2 v acc.length (pairL acc))
    (ad : Addr) (c : Nat) (l : List UInt8 × List UInt8) (hx : a.eval x = .slice (some ad) 1 c) (hnew : w.cell? (ad.add 0) = some (.string (bs l.1))) (hnew2 : w.cell? (ad.add 1) = some (.string (bs l.2)))
    (hlen : acc.length + 1 ≤ 4294967296) (hbase : base ≤ w.heap.size)
    (h : ∀ v' w', w'.ownsRow base 36 2 v' (acc ++ [l]).length (pairL (acc ++ [l])) → w.grownBy w' v.ownBlock → K (a.put o.dst v') w') :
    if Region.wanted o (yielded ops a.tmps) = true then Oper.wp Tryd.prog o a w K Q else E := by
  have hw : Region.wanted o (yielded ops a.tmps) = true := by simp [Region.wanted, hgd]
  rw [if_pos hw]
  obtain ⟨i0, hi, hz0, hz1, hz2⟩ := info_parts info_all
  refine wp_append_own w s x 23 ho base 36 i0 (.agg #[.string ⟨#[]⟩, .string ⟨#[]⟩]) 2 32 Tryd.underlying23 hi hz0 hz1 hz2 rfl (by decide) v acc.length (pairL acc) hs hown ad 1 c (pairL [l]) hx rfl ?_ (pairs_one [l]) (by unfold maxLen; omega) (by omega) hbase ?_
  · intro j u hj
    match j, hj with
    | 0, hj =>
      simp [pairL] at hj
      subst hj
      exact hnew
    | 1, hj =>
      simp [pairL] at hj
      subst hj
      exact hnew2
    | j + 2, hj => simp [pairL] at hj
  · intro v' w' h1 h2 _
    refine h v' w' ?_ h2
    rw [List.length_append, pairL_append]
    exact h1
end Go.Proofs.YtpheaepifjcmiaaDoor
