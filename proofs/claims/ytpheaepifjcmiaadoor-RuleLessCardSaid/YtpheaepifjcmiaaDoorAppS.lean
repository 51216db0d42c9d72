/- Laws: appending lists of texts, and of pairs, to nil, and to the call's own rows; stores elsewhere. -/
import Derived.Test.YtpheaepifjcmiaaDoorRefIn
import Derived.Laws.AppendOwnNone
namespace Go.Proofs.YtpheaepifjcmiaaDoor
open Go.RowKit Go.Lib
set_option maxRecDepth 100000
set_option linter.unusedVariables false

theorem info_all : (Tryd.prog.info? 36).map (fun i => (i.zero, i.size, i.bytes)) = some (some (.agg #[.string ⟨#[]⟩, .string ⟨#[]⟩]), 2, 32) := by kernel_rfl
theorem strs_one (ls : List (List UInt8)) : ∀ u ∈ strsL ls, u.oneCell' = true := by
  intro u hu
  simp only [strsL, List.mem_map] at hu
  obtain ⟨b, _, rfl⟩ := hu
  rfl
theorem pairs_one (ls : List (List UInt8 × List UInt8)) : ∀ u ∈ pairL ls, u.oneCell' = true := by
  intro u hu
  simp only [pairL, List.mem_flatMap] at hu
  obtain ⟨b, _, hb⟩ := hu
  simp at hb
  rcases hb with rfl | rfl <;> rfl
theorem isS_cells {w : World} {ad : Addr} {n : Nat} {ls : List (List UInt8)} (h : IsS w (some ad) n ls) : ∀ j u, (strsL ls)[j]? = some u → w.cell? (ad.add j) = some u := by
  intro j u hj
  rw [strsL_get] at hj
  rcases h.2 with h0 | ⟨b', o', e, hat⟩
  · have hl : ls = [] := List.length_eq_zero_iff.1 (by rw [h.1, h0])
    subst hl
    cases hj
  · obtain rfl := Option.some.inj e
    rw [Option.map_eq_some_iff] at hj
    obtain ⟨l, hl, rfl⟩ := hj
    rw [addr_add]
    exact hat j l hl
theorem pairL_at : ∀ (ls : List (List UInt8 × List UInt8)) (j : Nat) (u : Value), (pairL ls)[j]? = some u → ∃ i x, ls[i]? = some x ∧ ((j = i * 2 ∧ u = .string (bs x.1)) ∨ (j = i * 2 + 1 ∧ u = .string (bs x.2)))
  | [], j, u, h => by simp [pairL] at h
  | y :: t, 0, u, h => ⟨0, y, rfl, .inl ⟨rfl, by
      have e : pairL (y :: t) = Value.string (bs y.1) :: Value.string (bs y.2) :: pairL t := rfl
      rw [e] at h
      simpa using h.symm⟩⟩
  | y :: t, 1, u, h => ⟨0, y, rfl, .inr ⟨rfl, by
      have e : pairL (y :: t) = Value.string (bs y.1) :: Value.string (bs y.2) :: pairL t := rfl
      rw [e] at h
      simpa using h.symm⟩⟩
  | y :: t, j + 2, u, h => by
    have e : pairL (y :: t) = Value.string (bs y.1) :: Value.string (bs y.2) :: pairL t := rfl
    rw [e] at h
    obtain ⟨i, x, h1, h2⟩ := pairL_at t j u (by simpa using h)
    exact ⟨i + 1, x, by simpa using h1, h2.imp (fun ⟨a, b⟩ => ⟨by omega, b⟩) (fun ⟨a, b⟩ => ⟨by omega, b⟩)⟩
theorem isA_cells {w : World} {ad : Addr} {n : Nat} {ls : List (List UInt8 × List UInt8)} (h : IsA w (some ad) n ls) : ∀ j u, (pairL ls)[j]? = some u → w.cell? (ad.add j) = some u := by
  intro j u hj
  obtain ⟨i, x, hi, hx⟩ := pairL_at ls j u hj
  rcases h.2 with h0 | ⟨b', o', e, hat⟩
  · have hl : ls = [] := List.length_eq_zero_iff.1 (by rw [h.1, h0])
    subst hl
    cases hi
  · obtain rfl := Option.some.inj e
    obtain ⟨h1, h2⟩ := hat i x hi
    rw [addr_add]
    rcases hx with ⟨rfl, rfl⟩ | ⟨rfl, rfl⟩
    · exact h1
    · rw [← Nat.add_assoc]; exact h2
/-- What is owned, with where it lies. -/
theorem own_isS' {w : World} {base : Nat} {v : Value} {ls : List (List UInt8)} (h : w.ownsRow base 9 1 v ls.length (strsL ls)) :
    ∃ a cap, v = .slice a ls.length cap ∧ IsS w a ls.length ls ∧ ls.length ≤ cap ∧ cap ≤ maxLen ∧ (∀ x, a = some x → base ≤ x.block) ∧ (a = none → cap = 0) := by
  obtain ⟨_, ⟨rfl, h0⟩ | ⟨g, cap, cur, rfl, hb, hg, hn, hc, hcs, ht⟩⟩ := h
  · exact ⟨none, 0, by rw [h0], ⟨rfl, .inl h0⟩, by omega, by unfold maxLen; omega, (fun x e => by cases e), fun _ => rfl⟩
  · refine ⟨_, cap, rfl, ⟨rfl, .inr ⟨g, 0, rfl, fun i l hi => ?_⟩⟩, hn, hc, (fun x e => by cases e; exact hb), (fun e => by cases e)⟩
    have hlt : i < ls.length := (List.getElem?_eq_some_iff.1 hi).1
    have h1 : (strsL ls)[i]? = some (.string ⟨l.toArray⟩) := by rw [strsL_get, hi]; rfl
    rw [← ht, Nat.mul_one, List.getElem?_take_of_lt hlt] at h1
    simp only [World.cell?, Nat.zero_add, hg]
    simpa using h1
theorem own_isA' {w : World} {base : Nat} {v : Value} {ls : List (List UInt8 × List UInt8)} (h : w.ownsRow base 36 2 v ls.length (pairL ls)) :
    ∃ a cap, v = .slice a ls.length cap ∧ IsA w a ls.length ls ∧ ls.length ≤ cap ∧ cap ≤ maxLen ∧ (∀ x, a = some x → base ≤ x.block) ∧ (a = none → cap = 0) := by
  obtain ⟨_, ⟨rfl, h0⟩ | ⟨g, cap, cur, rfl, hb, hg, hn, hc, hcs, ht⟩⟩ := h
  · exact ⟨none, 0, by rw [h0], ⟨rfl, .inl h0⟩, by omega, by unfold maxLen; omega, (fun x e => by cases e), fun _ => rfl⟩
  · refine ⟨_, cap, rfl, ⟨rfl, .inr ⟨g, 0, rfl, fun i x hi => ?_⟩⟩, hn, hc, (fun x e => by cases e; exact hb), (fun e => by cases e)⟩
    have hlt : i < ls.length := (List.getElem?_eq_some_iff.1 hi).1
    obtain ⟨h1, h2⟩ := pairL_get ls i x hi
    rw [← ht, List.getElem?_take_of_lt (by omega)] at h1 h2
    simp only [World.cell?, Nat.zero_add, hg]
    exact ⟨by simpa using h1, by simpa using h2⟩
/-- 'append(own, x...)', own the call's own row of texts, x whatever came in. -/
theorem append_S {w : World} {ops : Array Oper} {rest : List Oper} {o : Oper} {a : Act} {Q : Exit → Act → World → Prop} (hgd : o.guard = none) (s x : Operand)
    (ho : o.op = .call { callee := .builtin .append, args := #[s, x], argTypes := #[22, 22] })
    (base : Nat) (v : Value) (acc : List (List UInt8)) (hs : a.eval s = v) (hown : w.ownsRow base 9 1 v acc.length (strsL acc))
    (ad : Option Addr) (m c : Nat) (new : List (List UInt8)) (hx : a.eval x = .slice ad m c) (hS : IsS w ad m new) (hn : ad = none → c = 0)
    (hlen : acc.length + m ≤ 8589934592) (hbase : base ≤ w.heap.size)
    (h : ∀ v' w', w'.ownsRow base 9 1 v' (acc ++ new).length (strsL (acc ++ new)) → w.grownBy w' v.ownBlock → wpList Tryd.prog ops Q rest (a.put o.dst v') w') : wpList Tryd.prog ops Q (o :: rest) a w := by
  obtain ⟨i0, hi, hz0, hz1, hz2⟩ := info_parts info_str
  cases ad with
  | none =>
    have hc := hn rfl
    subst hc
    have hm : m = 0 := hS.2.elim id fun ⟨b, off, e, _⟩ => by cases e
    subst hm
    have hnew : new = [] := List.length_eq_zero_iff.1 hS.1
    subst hnew
    refine wpList_append_own_none hgd s x 22 ho base 9 i0 1 Tryd.underlying22 hi v acc.length (strsL acc) hs hown hx (h v w ?_ (World.grownBy.refl _ _))
    rw [List.append_nil]
    exact hown
  | some ad =>
    have hcl := isS_cells hS
    refine wpList_append_own w hgd s x 22 ho base 9 i0 (.string ⟨#[]⟩) 1 16 Tryd.underlying22 hi hz0 hz1 hz2 rfl (by decide) v acc.length (strsL acc) hs hown ad m c (strsL new) hx (by rw [strsL_len, hS.1]; omega) hcl (strs_one new) (by unfold maxLen; omega) (by omega) hbase ?_
    intro v' w' h1 h2 _
    refine h v' w' ?_ h2
    rw [List.length_append, strsL_append, hS.1]
    exact h1
/-- The same, of pairs. -/
theorem append_A {w : World} {ops : Array Oper} {rest : List Oper} {o : Oper} {a : Act} {Q : Exit → Act → World → Prop} (hgd : o.guard = none) (s x : Operand)
    (ho : o.op = .call { callee := .builtin .append, args := #[s, x], argTypes := #[23, 23] })
    (base : Nat) (v : Value) (acc : List (List UInt8 × List UInt8)) (hs : a.eval s = v) (hown : w.ownsRow base 36 2 v acc.length (pairL acc))
    (ad : Option Addr) (m c : Nat) (new : List (List UInt8 × List UInt8)) (hx : a.eval x = .slice ad m c) (hS : IsA w ad m new) (hn : ad = none → c = 0)
    (hlen : acc.length + m ≤ 4294967296) (hbase : base ≤ w.heap.size)
    (h : ∀ v' w', w'.ownsRow base 36 2 v' (acc ++ new).length (pairL (acc ++ new)) → w.grownBy w' v.ownBlock → wpList Tryd.prog ops Q rest (a.put o.dst v') w') : wpList Tryd.prog ops Q (o :: rest) a w := by
  obtain ⟨i0, hi, hz0, hz1, hz2⟩ := info_parts info_all
  cases ad with
  | none =>
    have hc := hn rfl
    subst hc
    have hm : m = 0 := hS.2.elim id fun ⟨b, off, e, _⟩ => by cases e
    subst hm
    have hnew : new = [] := List.length_eq_zero_iff.1 hS.1
    subst hnew
    refine wpList_append_own_none hgd s x 23 ho base 36 i0 2 Tryd.underlying23 hi v acc.length (pairL acc) hs hown hx (h v w ?_ (World.grownBy.refl _ _))
    rw [List.append_nil]
    exact hown
  | some ad =>
    have hcl := isA_cells hS
    refine wpList_append_own w hgd s x 23 ho base 36 i0 (.agg #[.string ⟨#[]⟩, .string ⟨#[]⟩]) 2 32 Tryd.underlying23 hi hz0 hz1 hz2 rfl (by decide) v acc.length (pairL acc) hs hown ad m c (pairL new) hx (by rw [pairL_len, hS.1]) hcl (pairs_one new) (by unfold maxLen; omega) (by omega) hbase ?_
    intro v' w' h1 h2 _
    refine h v' w' ?_ h2
    rw [List.length_append, pairL_append, hS.1]
    exact h1
theorem IsS.set_ {w : World} {a : Option Addr} {n : Nat} {ls : List (List UInt8)} (h : IsS w a n ls) (p : Addr) (u : Value) (hne : ∀ x, a = some x → x.block ≠ p.block) : IsS (w.setCell p u) a n ls := by
  refine ⟨h.1, h.2.elim .inl fun ⟨b, off, e, hat⟩ => .inr ⟨b, off, e, fun i l hi => ?_⟩⟩
  rw [World.cell?_setCell_other w p ⟨b, off + i, none⟩ u (fun e2 => hne _ e (by rw [e2]))]
  exact hat i l hi
theorem IsA.set_ {w : World} {a : Option Addr} {n : Nat} {ls : List (List UInt8 × List UInt8)} (h : IsA w a n ls) (p : Addr) (u : Value) (hne : ∀ x, a = some x → x.block ≠ p.block) : IsA (w.setCell p u) a n ls := by
  refine ⟨h.1, h.2.elim .inl fun ⟨b, off, e, hat⟩ => .inr ⟨b, off, e, fun i l hi => ?_⟩⟩
  rw [World.cell?_setCell_other w p ⟨b, off + i * 2, none⟩ u (fun e2 => hne _ e (by rw [e2])), World.cell?_setCell_other w p ⟨b, off + i * 2 + 1, none⟩ u (fun e2 => hne _ e (by rw [e2]))]
  exact hat i l hi
end Go.Proofs.YtpheaepifjcmiaaDoor
