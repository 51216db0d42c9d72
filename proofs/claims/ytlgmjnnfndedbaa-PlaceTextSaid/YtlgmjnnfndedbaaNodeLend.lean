/- Nodes that a call itself made, all apart, appended one by one; what LentNodes makes. -/
import Derived.Test.YtlgmjnnfndedbaaTreeO
namespace Go.Proofs.Ytlgmjnnfndedbaa
open Go.RowKit Go.Lib
set_option maxRecDepth 100000
set_option linter.unusedVariables false

/-- It is that node: attributes from lo up to mid, kids from mid up to hi. -/
structure FitsD (lo mid hi d : Nat) (w : World) (r : NodeR) (x : Dom.N) : Prop where
  kind : r.kind = x.kind
  space : r.space = x.space
  name : r.name = x.name
  text : r.text = x.text
  atts : IsA w r.aa r.an x.atts
  inS : InS (fun k => lo ≤ k ∧ k < mid) r.aa r.an
  own : OwnB w 91 r.aa r.an
  kids : IsD d w mid hi r.ka r.kn x.kids
  anil : r.aa = none → r.ac = 0
  knil : r.ka = none → r.kc = 0
theorem FitsD.keep {lo mid hi d : Nat} {w w' : World} {r : NodeR} {x : Dom.N} (h : FitsD lo mid hi d w r x) (h1 : lo ≤ mid) (h2 : mid ≤ hi) (hk : ∀ k, lo ≤ k → k < hi → w'.heap[k]? = w.heap[k]?) : FitsD lo mid hi d w' r x := by
  have ka : ∀ k, lo ≤ k ∧ k < mid → w'.heap[k]? = w.heap[k]? := fun k q => hk k q.1 (by omega)
  exact ⟨h.kind, h.space, h.name, h.text, isA_in h.atts h.inS ka, h.inS, h.own.keep h.inS ka, h.kids.keep (fun k q1 q2 => hk k (by omega) q2), h.anil, h.knil⟩
/-- A list of nodes that the call itself made: all apart, the nodes' own blocks below B. -/
def OwnD (w : World) (base B d : Nat) (v : Value) (xs : List Dom.N) : Prop := ∃ (rs : List NodeR) (f g t : Nat → Nat), w.ownsRow base 61 6 v xs.length (nodeL rs) ∧ rs.length = xs.length ∧ base ≤ f 0 ∧ f xs.length ≤ B ∧ (∀ b, v.ownBlock = some b → b < B) ∧
  (∀ i, i < xs.length → f i ≤ g i ∧ g i ≤ t i ∧ t i ≤ f (i + 1) ∧ ∀ b, v.ownBlock = some b → (b < f i ∨ t i ≤ b)) ∧ ∀ (i : Nat) r x, rs[i]? = some r → xs[i]? = some x → FitsD (f i) (g i) (t i) d w r x
theorem OwnD.nil (w : World) (base d : Nat) {B : Nat} (hB : base ≤ B) : OwnD w base B d (.slice none 0 0) [] := ⟨[], fun _ => base, fun _ => base, fun _ => base, World.ownsRow_nil _ _ _ _, rfl, Nat.le_refl _, hB, (fun b e => (by simp [Value.ownBlock] at e)), (fun i hi => (by cases hi)), (fun i r x h => (by simp at h))⟩
theorem OwnD.wide {w : World} {base B B' d : Nat} {v : Value} {xs : List Dom.N} (h : OwnD w base B d v xs) (hB : B ≤ B') : OwnD w base B' d v xs := by
  obtain ⟨rs, f, g, t, h1, h2, h3, h4, h5, h6, h7⟩ := h
  exact ⟨rs, f, g, t, h1, h2, h3, by omega, fun b e => by have := h5 b e; omega, h6, h7⟩
theorem OwnD.below {w w' : World} {base B d : Nat} {v : Value} {xs : List Dom.N} (h : OwnD w base B d v xs) (hb : Below w.heap.size w w') (hB : B ≤ w.heap.size) : OwnD w' base B d v xs := by
  obtain ⟨rs, f, g, t, h1, h2, h3, h4, h5, h6, h7⟩ := h
  refine ⟨rs, f, g, t, own_below h1 hb, h2, h3, h4, h5, h6, fun i r x hr hx => ?_⟩
  have hi : i < xs.length := (List.getElem?_eq_some_iff.1 hx).1
  have := h6 i hi
  have := mono_le (f := f) (n := xs.length) (fun i hi => by have := h6 i hi; omega) (show i + 1 ≤ xs.length by omega) (Nat.le_refl _)
  exact (h7 i r x hr hx).keep (by omega) (by omega) fun k q1 q2 => hb.block k (by omega)
/-- 'append(out, x)', out the call's own. -/
theorem append_D {w : World} {ops : Array Oper} {rest : List Oper} {o : Oper} {a : Act} {Q : Exit → Act → World → Prop} (hgd : o.guard = none) (s x : Operand)
    (ho : o.op = .call { callee := .builtin .append, args := #[s, x], argTypes := #[53, 53] })
    (base B d : Nat) (v : Value) (xs : List Dom.N) (hs : a.eval s = v) (hown : OwnD w base B d v xs) (F G T : Nat) (hBF : B ≤ F) (hFG : F ≤ G) (hGT : G ≤ T) (hT : T ≤ w.heap.size)
    (ad : Addr) (c : Nat) (r : NodeR) (y : Dom.N) (hx : a.eval x = .slice (some ad) 1 c) (hnew : ∀ j, j < 6 → w.cell? (ad.add j) = (nodeRow r)[j]?) (hf : FitsD F G T d w r y)
    (hlen : xs.length + 1 ≤ 1000000000) (hbase : base ≤ w.heap.size)
    (h : ∀ v' w', OwnD w' base w'.heap.size d v' (xs ++ [y]) → w.grownBy w' v.ownBlock → wpList Try.prog ops Q rest (a.put o.dst v') w') : wpList Try.prog ops Q (o :: rest) a w := by
  obtain ⟨i0, hi, hz0, hz1, hz2⟩ := info_parts info_node
  obtain ⟨rs, f, g, t, h1, h2, h3, h4, h5, h6, h7⟩ := hown
  refine wpList_append_own_at w hgd s x 53 ho base 61 i0 (.agg #[.int .u8 0, .int .u8 0, .string ⟨#[]⟩, .slice none 0 0, .string ⟨#[]⟩, .slice none 0 0]) 6 88 Try.underlying53 hi hz0 hz1 hz2 rfl (by decide) v xs.length (nodeL rs) hs h1 ad 1 c (nodeL [r]) hx rfl ?_ (node_one [r]) (by unfold maxLen; omega) (by omega) hbase ?_
  · intro j u hj
    by_cases hj6 : j < 6
    · rw [hnew j hj6, ← hj]
      have := nodeL_get [r] 0 r rfl j hj6
      rw [Nat.zero_mul, Nat.zero_add] at this
      exact this.symm
    · rw [List.getElem?_eq_none (by rw [nodeL_len]; simp; omega)] at hj
      cases hj
  · intro v' w' g1 g2 _ g4
    have hsz : w.heap.size ≤ w'.heap.size := g2.size
    have hmono := fun i (hi : i ≤ xs.length) => mono_le (f := f) (n := xs.length) (fun i hi => by have := h6 i hi; omega) hi (Nat.le_refl _)
    have hold : ∀ b, v'.ownBlock = some b → b < w'.heap.size := fun b e => by
      obtain ⟨_, ⟨rfl, h0⟩ | ⟨g', cap, cur, rfl, hb', hg', _⟩⟩ := g1
      · simp [Value.ownBlock] at e
      · simp [Value.ownBlock] at e
        subst e
        rcases Nat.lt_or_ge g' w'.heap.size with q | q
        · exact q
        · rw [Array.getElem?_eq_none q] at hg'
          cases hg'
    have hfar : ∀ p q, p ≤ q → q ≤ w.heap.size → (∀ b, v.ownBlock = some b → (b < p ∨ q ≤ b)) → ∀ b, v'.ownBlock = some b → (b < p ∨ q ≤ b) := fun p q hpq hq hp b e => by
      rcases g4 with e2 | e2
      · rw [e2] at e
        exact hp b e
      · rw [e2] at e
        have := Option.some.inj e
        omega
    have hkeep : ∀ p q, q ≤ w.heap.size → (∀ b, v.ownBlock = some b → (b < p ∨ q ≤ b)) → ∀ k, p ≤ k → k < q → w'.heap[k]? = w.heap[k]? := fun p q hq hp k k1 k2 => g2.block k (by omega) (fun e => by have := hp k e.symm; omega)
    have hnewfar : ∀ b, v.ownBlock = some b → (b < F ∨ T ≤ b) := fun b e => .inl (by have := h5 b e; omega)
    refine h v' w' ⟨rs ++ [r], fun i => if i < xs.length then f i else if i = xs.length then F else w'.heap.size, fun i => if i < xs.length then g i else G, fun i => if i < xs.length then t i else T, ?_, by rw [List.length_append, List.length_append, h2]; rfl, ?_, ?_, hold, ?_, ?_⟩ g2
    · rw [List.length_append, nodeL_append]
      exact g1
    · show base ≤ if 0 < xs.length then f 0 else if 0 = xs.length then F else w'.heap.size
      have := hmono 0 (Nat.zero_le _)
      split
      · exact h3
      · split <;> omega
    · rw [List.length_append, List.length_singleton]
      show (if xs.length + 1 < xs.length then _ else if xs.length + 1 = xs.length then F else w'.heap.size) ≤ _
      rw [if_neg (by omega), if_neg (by omega)]
      exact Nat.le_refl _
    · intro i hi'
      rw [List.length_append, List.length_singleton] at hi'
      by_cases e : i < xs.length
      · have q := h6 i e
        have q2 := hmono (i + 1) (by omega)
        have q3 := hfar (f i) (t i) (by omega) (by omega) q.2.2.2
        show (if i < xs.length then f i else _) ≤ (if i < xs.length then g i else G) ∧ (if i < xs.length then g i else G) ≤ (if i < xs.length then t i else T) ∧ (if i < xs.length then t i else T) ≤ (if i + 1 < xs.length then f (i + 1) else if i + 1 = xs.length then F else w'.heap.size) ∧ ∀ b, v'.ownBlock = some b → (b < (if i < xs.length then f i else _) ∨ (if i < xs.length then t i else T) ≤ b)
        rw [if_pos e, if_pos e, if_pos e]
        refine ⟨q.1, q.2.1, ?_, q3⟩
        split
        · exact q.2.2.1
        · rw [if_pos (by omega)]
          omega
      · obtain rfl : i = xs.length := by omega
        have q3 := hfar F T (by omega) hT hnewfar
        show (if xs.length < xs.length then _ else if xs.length = xs.length then F else _) ≤ (if xs.length < xs.length then _ else G) ∧ (if xs.length < xs.length then _ else G) ≤ (if xs.length < xs.length then _ else T) ∧ (if xs.length < xs.length then _ else T) ≤ (if xs.length + 1 < xs.length then _ else if xs.length + 1 = xs.length then F else w'.heap.size) ∧ ∀ b, v'.ownBlock = some b → (b < (if xs.length < xs.length then _ else if xs.length = xs.length then F else _) ∨ (if xs.length < xs.length then _ else T) ≤ b)
        rw [if_neg (Nat.lt_irrefl _), if_pos rfl, if_neg (Nat.lt_irrefl _), if_neg (Nat.lt_irrefl _), if_neg (by omega), if_neg (by omega)]
        exact ⟨hFG, hGT, by omega, q3⟩
    · intro i r' x' hr hx'
      rcases Nat.lt_or_ge i rs.length with hlt | hge
      · rw [List.getElem?_append_left hlt] at hr
        rw [List.getElem?_append_left (by omega)] at hx'
        have e : i < xs.length := by omega
        have q := h6 i e
        have q2 := hmono (i + 1) (by omega)
        show FitsD (if i < xs.length then f i else _) (if i < xs.length then g i else G) (if i < xs.length then t i else T) d w' r' x'
        rw [if_pos e, if_pos e, if_pos e]
        exact (h7 i r' x' hr hx').keep q.1 q.2.1 (hkeep (f i) (t i) (by omega) q.2.2.2)
      · rw [List.getElem?_append_right hge] at hr
        rw [List.getElem?_append_right (by omega), ← h2] at hx'
        by_cases hz : i - rs.length = 0
        · rw [hz] at hr hx'
          simp at hr hx'
          subst hr; subst hx'
          obtain rfl : i = xs.length := by omega
          show FitsD (if xs.length < xs.length then _ else if xs.length = xs.length then F else _) (if xs.length < xs.length then _ else G) (if xs.length < xs.length then _ else T) d w' _ _
          rw [if_neg (Nat.lt_irrefl _), if_pos rfl, if_neg (Nat.lt_irrefl _), if_neg (Nat.lt_irrefl _)]
          exact hf.keep hFG hGT (hkeep F T hT hnewfar)
        · rw [List.getElem?_eq_none (by simp; omega)] at hr
          cases hr
/-- What is owned is a list of nodes, all apart. -/
theorem own_isD {w : World} {base B d : Nat} {v : Value} {xs : List Dom.N} (h : OwnD w base B d v xs) : ∃ a cap, v = .slice a xs.length cap ∧ IsD (d + 1) w base B a xs.length xs ∧ (a = none → cap = 0) := by
  obtain ⟨rs, f, g, t, ⟨_, ⟨rfl, h0⟩ | ⟨b, cap, cur, rfl, hb, hg, hn, hc, hcs, ht⟩⟩, h2, h3, h4, h5, h6, h7⟩ := h
  · exact ⟨none, 0, by rw [h0], ⟨rfl, .inl h0⟩, fun _ => rfl⟩
  · have hbB := h5 b rfl
    refine ⟨_, cap, rfl, ⟨rfl, .inr ⟨b, _, f, g, t, rfl, hg, hb, hbB, h3, h4, fun i hi => ⟨(h6 i hi).1, (h6 i hi).2.1, (h6 i hi).2.2.1, (h6 i hi).2.2.2 b rfl⟩, fun i x hi => ?_⟩⟩, fun e => by cases e⟩
    have hix : i < xs.length := (List.getElem?_eq_some_iff.1 hi).1
    obtain ⟨r, hr⟩ : ∃ r, rs[i]? = some r := ⟨_, List.getElem?_eq_getElem (by omega)⟩
    have hf := h7 i r x hr hi
    have cells : ∀ j, j < 6 → w.cell? ⟨b, i * 6 + j, none⟩ = (nodeRow r)[j]? := by
      intro j hj
      have h1 := nodeL_get rs i r hr j hj
      rw [← ht, List.getElem?_take_of_lt (by omega)] at h1
      rw [← h1]
      simp only [World.cell?, hg]
      simp
    have c0 := cells 0 (by omega)
    have c1 := cells 1 (by omega)
    have c2 := cells 2 (by omega)
    have c3 := cells 3 (by omega)
    have c4 := cells 4 (by omega)
    have c5 := cells 5 (by omega)
    simp only [nodeRow, Nat.add_zero, List.getElem?_cons_zero, List.getElem?_cons_succ, hf.kind, hf.space, hf.name, hf.text] at c0 c1 c2 c3 c4 c5
    exact ⟨r.aa, r.an, r.ac, r.ka, r.kn, r.kc, ⟨c0, c1, c2, c3, c4, c5, hf.atts, hf.inS, hf.kids, hf.anil, hf.knil⟩, hf.own⟩
end Go.Proofs.Ytlgmjnnfndedbaa
