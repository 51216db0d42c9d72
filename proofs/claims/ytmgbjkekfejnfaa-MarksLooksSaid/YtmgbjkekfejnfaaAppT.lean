/- Laws: appending lists of attributes to the call's own row. -/
import Derived.Test.YtmgbjkekfejnfaaPairs
import Derived.Laws.AppendOwnNone
import Derived.Deep.RegionLaw
import Derived.IntWalk
namespace Go.Proofs.Ytmgbjkekfejnfaa
open Go.RowKit Go.Lib
set_option maxRecDepth 100000
set_option linter.unusedVariables false

theorem info_attr : (Try.prog.info? 38).map (fun i => (i.zero, i.size, i.bytes)) = some (some (.agg #[.string ⟨#[]⟩, .string ⟨#[]⟩]), 2, 32) := by kernel_rfl
theorem own_isT' {w : World} {base : Nat} {v : Value} {ls : List (List UInt8 × List UInt8)} (h : w.ownsRow base 38 2 v ls.length (pairL ls)) :
    ∃ a cap, v = .slice a ls.length cap ∧ IsA w a ls.length ls ∧ ls.length ≤ cap ∧ cap ≤ maxLen ∧ (∀ x, a = some x → base ≤ x.block) ∧ (a = none → cap = 0) := by
  obtain ⟨_, ⟨rfl, h0⟩ | ⟨g, cap, cur, rfl, hb, hg, hn, hc, hcs, ht⟩⟩ := h
  · exact ⟨none, 0, by rw [h0], ⟨rfl, .inl h0⟩, by omega, by unfold maxLen; omega, (fun x e => by cases e), fun _ => rfl⟩
  · refine ⟨_, cap, rfl, ⟨rfl, .inr ⟨g, 0, rfl, fun i x hi => ?_⟩⟩, hn, hc, (fun x e => by cases e; exact hb), (fun e => by cases e)⟩
    have hlt : i < ls.length := (List.getElem?_eq_some_iff.1 hi).1
    obtain ⟨h1, h2⟩ := pairL_get ls i x hi
    rw [← ht, List.getElem?_take_of_lt (by omega)] at h1 h2
    simp only [World.cell?, Nat.zero_add, hg]
    exact ⟨by simpa using h1, by simpa using h2⟩
/-- The block that a list of attributes lies in is one of attributes. -/
def TypB (w : World) (a : Option Addr) : Prop := ∀ x, a = some x → ∃ cs fr, w.heap[x.block]? = some (.cells cs 38 fr)
theorem own_typ {w : World} {base m n cp : Nat} {ad : Option Addr} {xs : List Value} (h : w.ownsRow base 38 2 (.slice ad n cp) m xs) : TypB w ad := by
  obtain ⟨_, ⟨e, _⟩ | ⟨g, cap, cur, e, _, hg, _⟩⟩ := h
  · cases e
    exact fun x hx => by cases hx
  · cases e
    exact fun x hx => by cases hx; exact ⟨cur, (0, 0), hg⟩
theorem TypB.heap {w w' : World} {a : Option Addr} (h : TypB w a) (hb : ∀ x, a = some x → w'.heap[x.block]? = w.heap[x.block]?) : TypB w' a := fun x hx => by
  rw [hb x hx]
  exact h x hx
theorem TypB.lt {w : World} {a : Option Addr} (h : TypB w a) (x : Addr) (hx : a = some x) : x.block < w.heap.size := by
  obtain ⟨cs, fr, hc⟩ := h x hx
  rcases Nat.lt_or_ge x.block w.heap.size with h1 | h1
  · exact h1
  · rw [Array.getElem?_eq_none h1] at hc; cases hc
theorem TypB.below {w w' : World} {a : Option Addr} (h : TypB w a) (hb : Below w.heap.size w w') : TypB w' a := h.heap fun x hx => hb.block _ (h.lt x hx)
/-- A block of another type is not theirs. -/
theorem TypB.ne {w : World} {a : Option Addr} {g : Nat} {cs : Array Value} {T : TypeId} {fr : Nat × Nat} (h : TypB w a) (hg : w.heap[g]? = some (.cells cs T fr)) (hT : T ≠ 38) (x : Addr) (hx : a = some x) : x.block ≠ g := by
  obtain ⟨cs', fr', hc⟩ := h x hx
  intro e
  rw [e, hg] at hc
  cases hc
  exact hT rfl
theorem append_T {w : World} {ops : Array Oper} {rest : List Oper} {o : Oper} {a : Act} {Q : Exit → Act → World → Prop} (hgd : o.guard = none) (s x : Operand)
    (ho : o.op = .call { callee := .builtin .append, args := #[s, x], argTypes := #[23, 23] })
    (base : Nat) (v : Value) (acc : List (List UInt8 × List UInt8)) (hs : a.eval s = v) (hown : w.ownsRow base 38 2 v acc.length (pairL acc))
    (ad : Option Addr) (m c : Nat) (new : List (List UInt8 × List UInt8)) (hx : a.eval x = .slice ad m c) (hS : IsA w ad m new) (hn : ad = none → c = 0)
    (hlen : acc.length + m ≤ 4294967296) (hbase : base ≤ w.heap.size)
    (h : ∀ v' w', w'.ownsRow base 38 2 v' (acc ++ new).length (pairL (acc ++ new)) → w.grownBy w' v.ownBlock → wpList Try.prog ops Q rest (a.put o.dst v') w') : wpList Try.prog ops Q (o :: rest) a w := by
  obtain ⟨i0, hi, hz0, hz1, hz2⟩ := info_parts info_attr
  cases ad with
  | none =>
    have hc := hn rfl
    subst hc
    have hm : m = 0 := hS.2.elim id fun ⟨b, off, e, _⟩ => by cases e
    subst hm
    have hnew : new = [] := List.length_eq_zero_iff.1 hS.1
    subst hnew
    refine wpList_append_own_none hgd s x 23 ho base 38 i0 2 Try.underlying23 hi v acc.length (pairL acc) hs hown hx (h v w ?_ (World.grownBy.refl _ _))
    rw [List.append_nil]
    exact hown
  | some ad =>
    have hcl := isA_cells hS
    refine wpList_append_own w hgd s x 23 ho base 38 i0 (.agg #[.string ⟨#[]⟩, .string ⟨#[]⟩]) 2 32 Try.underlying23 hi hz0 hz1 hz2 rfl (by decide) v acc.length (pairL acc) hs hown ad m c (pairL new) hx (by rw [pairL_len, hS.1]) hcl (pairs_one new) (by unfold maxLen; omega) (by omega) hbase ?_
    intro v' w' h1 h2 _
    refine h v' w' ?_ h2
    rw [List.length_append, pairL_append, hS.1]
    exact h1
theorem step_T1 {w : World} {ops : Array Oper} {o : Oper} {a : Act} {K : Act → World → Prop} {Q : Exit → Act → World → Prop} {E : Prop} (hgd : o.guard = none) (s x : Operand)
    (ho : o.op = .call { callee := .builtin .append, args := #[s, x], argTypes := #[23, 23] })
    (base : Nat) (v : Value) (acc : List (List UInt8 × List UInt8)) (hs : a.eval s = v) (hown : w.ownsRow base 38 2 v acc.length (pairL acc))
    (ad : Addr) (c : Nat) (l : List UInt8 × List UInt8) (hx : a.eval x = .slice (some ad) 1 c) (hnew : w.cell? (ad.add 0) = some (.string (bs l.1))) (hnew2 : w.cell? (ad.add 1) = some (.string (bs l.2)))
    (hlen : acc.length + 1 ≤ 4294967296) (hbase : base ≤ w.heap.size)
    (h : ∀ v' w', w'.ownsRow base 38 2 v' (acc ++ [l]).length (pairL (acc ++ [l])) → w.grownBy w' v.ownBlock → K (a.put o.dst v') w') :
    if Region.wanted o (yielded ops a.tmps) = true then Oper.wp Try.prog o a w K Q else E := by
  have hw : Region.wanted o (yielded ops a.tmps) = true := by simp [Region.wanted, hgd]
  rw [if_pos hw]
  obtain ⟨i0, hi, hz0, hz1, hz2⟩ := info_parts info_attr
  refine wp_append_own w s x 23 ho base 38 i0 (.agg #[.string ⟨#[]⟩, .string ⟨#[]⟩]) 2 32 Try.underlying23 hi hz0 hz1 hz2 rfl (by decide) v acc.length (pairL acc) hs hown ad 1 c (pairL [l]) hx rfl ?_ (pairs_one [l]) (by unfold maxLen; omega) (by omega) hbase ?_
  · intro j u hj
    match j, hj with
    | 0, hj =>
      simp [pairL] at hj
      subst hj
      exact hnew
    | 1, hj =>
      simp [pairL] at hj
      subst hj
      exact hnew2
    | j + 2, hj => simp [pairL] at hj
  · intro v' w' h1 h2 _
    refine h v' w' ?_ h2
    rw [List.length_append, pairL_append]
    exact h1
end Go.Proofs.Ytmgbjkekfejnfaa
