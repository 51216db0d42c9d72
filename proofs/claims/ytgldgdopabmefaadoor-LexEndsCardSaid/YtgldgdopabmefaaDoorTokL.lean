/- Plain Lean: tokens go on, and all of them. Nothing of a program stands here. Laws: lists of tokens in memory (a struct of five cells, its list of attributes in a block of its own), made by the call itself. -/
import Derived.Test.YtgldgdopabmefaaDoorLexPl
import Derived.Test.YtgldgdopabmefaaDoorTagForm
import Derived.Test.YtgldgdopabmefaaDoorLexV
import Derived.Test.YtgldgdopabmefaaDoorAppT
namespace Go.Proofs.YtgldgdopabmefaaDoor.Lex
open Go.Lib
set_option maxRecDepth 100000
set_option linter.unusedVariables false

theorem mark_grow {l : List UInt8} {cd : Bool} {j : Nat} (hj : j < l.length) : ((mark l cd j).1 = last ∧ (mark l cd j).2.1 = l.length) ∨ (j < (mark l cd j).2.1 ∧ (mark l cd j).2.1 ≤ l.length ∧ (mark l cd j).1.kind ≠ 6) := by
  cases h1 : Tag.begB l j with
  | true =>
    cases hr : Tag.readP l j with
    | none => rw [mark_none h1 hr]; exact .inl ⟨rfl, rfl⟩
    | some x =>
      obtain ⟨t, m⟩ := x
      rw [mark_tag h1 hr]
      obtain ⟨f1, f2, _⟩ := Tag.read_form h1 hr
      refine .inr ⟨f1, f2, ?_⟩
      show t.kind ≠ 6
      unfold Tag.readP at hr
      cases hx : Tag.runs l (Tag.nameEnd l j) [] with
      | none => rw [hx] at hr; cases hr
      | some y =>
        rw [hx] at hr
        simp only [Option.some.injEq, Prod.mk.injEq] at hr
        rw [← hr.1]
        show (if Tag.isEnd l j = true then 3 else 2) ≠ 6
        split <;> decide
  | false =>
    cases h2 : Note.begB (l.drop j) with
    | true =>
      obtain ⟨⟨k, t, n⟩, hf⟩ : ∃ F, Note.first (l.drop j) cd = F := ⟨_, rfl⟩
      obtain ⟨f1, f2, f3, _⟩ := Note.first_form cd h2
      rw [hf, List.length_drop] at f1
      rw [hf] at f2 f3
      rw [mark_note h1 h2 hf]
      simp only at f1 f2 f3
      refine .inr ⟨by show j < j + n; omega, by show j + n ≤ _; omega, ?_⟩
      show k ≠ 6
      omega
    | false =>
      have h3 := upM_ge l (j + 1) (by omega)
      rw [mark_text h1 h2 rfl]
      exact .inr ⟨by show j < upM l (j + 1); omega, h3.2, by show (1 : Nat) ≠ 6; decide⟩
theorem rawT_far {l small : List UInt8} {mode i : Nat} (h : rawT l small mode i ≠ []) : i < rawE l small mode i := by
  unfold rawT at h
  unfold rawE
  rcases Nat.eq_zero_or_pos (Raw.far small mode (l.drop i)) with h0 | h0
  · rw [h0, List.take_zero] at h
    exact absurd (by unfold Raw.textOf; split; · exact Ent.decode_nil false
                     · rfl) h
  · omega
/-- A token goes on, or it is the last one, at the end. -/
theorem next_grow (l small : List UInt8) (mode : Nat) (cd : Bool) : ∀ (n i : Nat), l.length ≤ n + i → next l small mode cd i = (last, l.length) ∨ (i < (next l small mode cd i).2 ∧ (next l small mode cd i).2 ≤ l.length ∧ (next l small mode cd i).1.kind ≠ 6)
  | 0, i, h => .inl (next_end (by omega))
  | n + 1, i, h => by
    by_cases hi : l.length ≤ i
    · exact .inl (next_end hi)
    by_cases hr : rawM mode = true ∧ rawT l small mode i ≠ []
    · rw [next_raw hi hr.1 hr.2]
      exact .inr ⟨rawT_far hr.2, (rawE_le (by omega)).2, by show (1 : Nat) ≠ 6; decide⟩
    have hj := from_le (small := small) (mode := mode) (show i ≤ l.length by omega)
    by_cases ho : l.length ≤ from_ l small mode i
    · rw [next_eq, if_neg hi, if_neg hr, if_pos ho]
      exact .inl (by rw [show from_ l small mode i = l.length by omega])
    have hH : Here l small mode i (from_ l small mode i) := ⟨hi, fun hm => by
      cases hc : rawT l small mode i with
      | nil => rfl
      | cons a r => exact absurd ⟨hm, by rw [hc]; exact fun e => by cases e⟩ hr, rfl, by omega⟩
    cases hm : (mark l cd (from_ l small mode i)).2.2 with
    | true =>
      rw [next_go hH hm]
      have h2 := mark_more hm
      rcases next_grow l small mode cd n (mark l cd (from_ l small mode i)).2.1 (by omega) with h3 | ⟨h3, h4, h5⟩
      · exact .inl h3
      · exact .inr ⟨by omega, h4, h5⟩
    | false =>
      rw [next_stay hH hm]
      rcases mark_grow (cd := cd) (show from_ l small mode i < l.length by omega) with ⟨h3, h4⟩ | ⟨h3, h4, h5⟩
      · exact .inl (by rw [h3, h4])
      · exact .inr ⟨by show i < _; omega, h4, h5⟩
/-- The tokens from a place on. -/
def allF (l : List UInt8) : Nat → Nat → List T
  | 0, _ => []
  | f + 1, i => if (next l [60, 47] 0 false i).1.kind = 6 then [] else (next l [60, 47] 0 false i).1 :: allF l f (next l [60, 47] 0 false i).2
theorem allF_fuel (l : List UInt8) : ∀ (f g i : Nat), l.length < f + i → l.length < g + i → allF l f i = allF l g i
  | 0, 0, i, _, _ => rfl
  | 0, g + 1, i, h, _ => by
    unfold allF
    rw [if_pos (by rw [next_end (by omega)]; rfl)]
  | f + 1, 0, i, _, h => by
    unfold allF
    rw [if_pos (by rw [next_end (by omega)]; rfl)]
  | f + 1, g + 1, i, hf, hg => by
    unfold allF
    rcases next_grow l [60, 47] 0 false l.length i (by omega) with h | ⟨h1, h2, h3⟩
    · rw [if_pos (by rw [h]; rfl), if_pos (by rw [h]; rfl)]
    · rw [if_neg h3, if_neg h3, allF_fuel l f g _ (by omega) (by omega)]
def allAt (l : List UInt8) (i : Nat) : List T := allF l (l.length + 1) i
theorem allAt_end {l : List UInt8} {i : Nat} (h : (next l [60, 47] 0 false i).1.kind = 6) : allAt l i = [] := by
  unfold allAt allF
  rw [if_pos h]
theorem allAt_go {l : List UInt8} {i : Nat} (h : (next l [60, 47] 0 false i).1.kind ≠ 6) : allAt l i = (next l [60, 47] 0 false i).1 :: allAt l (next l [60, 47] 0 false i).2 := by
  rcases next_grow l [60, 47] 0 false l.length i (by omega) with h1 | ⟨h1, h2, h3⟩
  · rw [h1] at h
    exact absurd rfl h
  · show allF l (l.length + 1) i = _
    unfold allF
    rw [if_neg h]
    unfold allAt
    rw [allF_fuel l l.length (l.length + 1) _ (by omega) (by omega)]
end Go.Proofs.YtgldgdopabmefaaDoor.Lex
namespace Go.Proofs.YtgldgdopabmefaaDoor
open Go.RowKit Go.Lib
set_option maxRecDepth 100000
set_option linter.unusedVariables false

/-- A token as it lies in memory. -/
structure TokR where
  kind : Nat
  name : List UInt8
  ad : Option Addr
  n : Nat
  c : Nat
  self : Bool
  text : List UInt8
def tokRow (r : TokR) : List Value := [.int .u8 r.kind, .string (bs r.name), .slice r.ad r.n r.c, .bool r.self, .string (bs r.text)]
def tokL (rs : List TokR) : List Value := rs.flatMap tokRow
theorem tokL_cons (r : TokR) (rs : List TokR) : tokL (r :: rs) = tokRow r ++ tokL rs := rfl
theorem tokL_append (a b : List TokR) : tokL (a ++ b) = tokL a ++ tokL b := by simp [tokL]
theorem tokL_len (rs : List TokR) : (tokL rs).length = rs.length * 5 := by
  induction rs with
  | nil => rfl
  | cons r t ih =>
    rw [tokL_cons, List.length_append, ih, List.length_cons]
    show 5 + t.length * 5 = _
    omega
theorem tokL_get : ∀ (rs : List TokR) (i : Nat) (r : TokR), rs[i]? = some r → ∀ j, j < 5 → (tokL rs)[i * 5 + j]? = (tokRow r)[j]?
  | [], i, r, h, j, hj => by simp at h
  | y :: t, 0, r, h, j, hj => by
    simp at h
    subst h
    rw [tokL_cons, Nat.zero_mul, Nat.zero_add, List.getElem?_append_left (by show j < 5; exact hj)]
  | y :: t, i + 1, r, h, j, hj => by
    rw [tokL_cons, List.getElem?_append_right (by show 5 ≤ _; omega), show (i + 1) * 5 + j - (tokRow y).length = i * 5 + j by show (i + 1) * 5 + j - 5 = _; omega]
    exact tokL_get t i r (by simpa using h) j hj
theorem tok_one (rs : List TokR) : ∀ u ∈ tokL rs, u.oneCell' = true := by
  intro u hu
  simp only [tokL, List.mem_flatMap] at hu
  obtain ⟨r, _, hr⟩ := hu
  simp [tokRow] at hr
  rcases hr with rfl | rfl | rfl | rfl | rfl <;> rfl
/-- It is that token: its attributes lie there, in a block of attributes. -/
def Fits (w : World) (m : Nat) (r : TokR) (t : Lex.T) : Prop := r.kind = t.kind ∧ r.name = t.name ∧ r.self = t.self ∧ r.text = t.text ∧ IsA w r.ad r.n t.atts ∧ r.n ≤ m ∧ TypB w r.ad
theorem Fits.heap {w w' : World} {m : Nat} {r : TokR} {t : Lex.T} (h : Fits w m r t) (hb : ∀ x, r.ad = some x → w'.heap[x.block]? = w.heap[x.block]?) : Fits w' m r t := by
  obtain ⟨h1, h2, h3, h4, h5, h6, h7⟩ := h
  exact ⟨h1, h2, h3, h4, isA_kept' h5 hb, h6, h7.heap hb⟩
theorem Fits.below {w w' : World} {m : Nat} {r : TokR} {t : Lex.T} (h : Fits w m r t) (hb : Below w.heap.size w w') : Fits w' m r t :=
  h.heap fun x hx => hb.block _ (h.2.2.2.2.2.2.lt x hx)
/-- A list of tokens that the call itself made. -/
def OwnT (w : World) (base m : Nat) (v : Value) (ts : List Lex.T) : Prop := ∃ rs : List TokR, w.ownsRow base 25 5 v ts.length (tokL rs) ∧ rs.length = ts.length ∧ ∀ (i : Nat) r t, rs[i]? = some r → ts[i]? = some t → Fits w m r t
theorem OwnT.nil (w : World) (base m : Nat) : OwnT w base m (.slice none 0 0) [] := ⟨[], World.ownsRow_nil _ _ _ _, rfl, fun i r t h => by simp at h⟩
theorem own_tblock {w : World} {base n : Nat} {v : Value} {xs : List Value} (h : w.ownsRow base 25 5 v n xs) : ∀ g, v.ownBlock = some g → ∃ cs, w.heap[g]? = some (.cells cs 25 (0, 0)) := by
  intro g hg
  obtain ⟨_, ⟨rfl, _⟩ | ⟨g', cap, cur, rfl, _, hc, _⟩⟩ := h
  · simp [Value.ownBlock] at hg
  · simp [Value.ownBlock] at hg
    subst hg
    exact ⟨cur, hc⟩
theorem OwnT.below {w w' : World} {base m : Nat} {v : Value} {ts : List Lex.T} (h : OwnT w base m v ts) (hb : Below w.heap.size w w') : OwnT w' base m v ts := by
  obtain ⟨rs, h1, h2, h3⟩ := h
  exact ⟨rs, own_below h1 hb, h2, fun i r t hr ht => (h3 i r t hr ht).below hb⟩
theorem info_tok : (Tryd.prog.info? 25).map (fun i => (i.zero, i.size, i.bytes)) = some (some (.agg #[.int .u8 0, .string ⟨#[]⟩, .slice none 0 0, .bool false, .string ⟨#[]⟩]), 5, 72) := by kernel_rfl
/-- 'append(out, t)', out the call's own. -/
theorem append_K {w : World} {ops : Array Oper} {rest : List Oper} {o : Oper} {a : Act} {Q : Exit → Act → World → Prop} (hgd : o.guard = none) (s x : Operand)
    (ho : o.op = .call { callee := .builtin .append, args := #[s, x], argTypes := #[28, 28] })
    (base m : Nat) (v : Value) (ts : List Lex.T) (hs : a.eval s = v) (hown : OwnT w base m v ts)
    (ad : Addr) (c : Nat) (r : TokR) (t : Lex.T) (hx : a.eval x = .slice (some ad) 1 c) (hnew : ∀ j, j < 5 → w.cell? (ad.add j) = (tokRow r)[j]?) (hf : Fits w m r t)
    (hlen : ts.length + 1 ≤ 1000000000) (hbase : base ≤ w.heap.size)
    (h : ∀ v' w', OwnT w' base m v' (ts ++ [t]) → w.grownBy w' v.ownBlock → wpList Tryd.prog ops Q rest (a.put o.dst v') w') : wpList Tryd.prog ops Q (o :: rest) a w := by
  obtain ⟨i0, hi, hz0, hz1, hz2⟩ := info_parts info_tok
  obtain ⟨rs, h1, h2, h3⟩ := hown
  refine wpList_append_own w hgd s x 28 ho base 25 i0 (.agg #[.int .u8 0, .string ⟨#[]⟩, .slice none 0 0, .bool false, .string ⟨#[]⟩]) 5 72 Tryd.underlying28 hi hz0 hz1 hz2 rfl (by decide) v ts.length (tokL rs) hs h1 ad 1 c (tokL [r]) hx rfl ?_ (tok_one [r]) (by unfold maxLen; omega) (by omega) hbase ?_
  · intro j u hj
    by_cases hj5 : j < 5
    · rw [hnew j hj5, ← hj]
      have := tokL_get [r] 0 r rfl j hj5
      rw [Nat.zero_mul, Nat.zero_add] at this
      exact this.symm
    · rw [List.getElem?_eq_none (by rw [tokL_len]; simp; omega)] at hj
      cases hj
  · intro v' w' g1 g2 _
    refine h v' w' ⟨rs ++ [r], ?_, by rw [List.length_append, List.length_append, h2]; rfl, ?_⟩ g2
    · rw [List.length_append, tokL_append]
      exact g1
    · have keep : ∀ r' t', Fits w m r' t' → Fits w' m r' t' := fun r' t' hf' => hf'.heap fun y hy => by
        refine g2.block _ (hf'.2.2.2.2.2.2.lt y hy) ?_
        intro e
        obtain ⟨cs, hc⟩ := own_tblock h1 y.block e.symm
        exact hf'.2.2.2.2.2.2.ne hc tok_ne_attr y hy rfl
      intro i r' t' hr ht
      rcases Nat.lt_or_ge i rs.length with hlt | hge
      · rw [List.getElem?_append_left hlt] at hr
        rw [List.getElem?_append_left (by omega)] at ht
        exact keep _ _ (h3 i r' t' hr ht)
      · rw [List.getElem?_append_right hge] at hr
        rw [List.getElem?_append_right (by omega), ← h2] at ht
        by_cases hz : i - rs.length = 0
        · rw [hz] at hr ht
          simp at hr ht
          subst hr; subst ht
          exact keep _ _ hf
        · rw [List.getElem?_eq_none (by simp; omega)] at hr
          cases hr
/-- A list of tokens. -/
def IsT (w : World) (a : Option Addr) (len m : Nat) (ts : List Lex.T) : Prop :=
  ∃ rs : List TokR, rs.length = len ∧ ts.length = len ∧ (len = 0 ∨ ∃ b off, a = some ⟨b, off, none⟩ ∧ ∀ (i : Nat) r, rs[i]? = some r → ∀ j, j < 5 → w.cell? ⟨b, off + i * 5 + j, none⟩ = (tokRow r)[j]?) ∧ ∀ (i : Nat) r t, rs[i]? = some r → ts[i]? = some t → Fits w m r t
theorem own_isK {w : World} {base m : Nat} {v : Value} {ts : List Lex.T} (h : OwnT w base m v ts) : ∃ a cap, v = .slice a ts.length cap ∧ IsT w a ts.length m ts ∧ ts.length ≤ cap ∧ cap ≤ maxLen := by
  obtain ⟨rs, ⟨_, ⟨rfl, h0⟩ | ⟨g, cap, cur, rfl, hb, hg, hn, hc, hcs, ht⟩⟩, h2, h3⟩ := h
  · exact ⟨none, 0, by rw [h0], ⟨rs, h2, rfl, .inl h0, h3⟩, by omega, by unfold maxLen; omega⟩
  · refine ⟨_, cap, rfl, ⟨rs, h2, rfl, .inr ⟨g, 0, rfl, fun i r hi j hj => ?_⟩, h3⟩, hn, hc⟩
    have hlt : i < rs.length := (List.getElem?_eq_some_iff.1 hi).1
    have h1 := tokL_get rs i r hi j hj
    rw [← ht, List.getElem?_take_of_lt (by omega)] at h1
    simp only [World.cell?, Nat.zero_add, hg]
    rw [← h1]
    simp
theorem IsT.below {w w' : World} {a : Option Addr} {len m : Nat} {ts : List Lex.T} (h : IsT w a len m ts) (hb : Below w.heap.size w w') : IsT w' a len m ts := by
  obtain ⟨rs, h1, h2, h3, h4⟩ := h
  refine ⟨rs, h1, h2, h3.elim .inl fun ⟨b, off, e, hat⟩ => .inr ⟨b, off, e, fun i r hi j hj => ?_⟩, fun i r t hr ht => (h4 i r t hr ht).below hb⟩
  have hc := hat i r hi j hj
  obtain ⟨u, hu⟩ : ∃ u, (tokRow r)[j]? = some u := ⟨_, List.getElem?_eq_getElem (by show j < 5; exact hj)⟩
  rw [hu] at hc ⊢
  exact (hb.cell (p := ⟨b, off + i * 5 + j, none⟩) (World.block_lt_of_cell? _ _ hc)).trans hc
/-- All tokens are told, as a list. -/
def AllE (l : List UInt8) (m : Nat) (e : Ending) (w' : World) : Prop := ∃ a cap, e = .returned (.slice a (Lex.allAt l 0).length cap) ∧ IsT w' a (Lex.allAt l 0).length m (Lex.allAt l 0) ∧ (Lex.allAt l 0).length ≤ m
theorem tok_new (W : World) (r : TokR) (H : Nat) (hH : W.heap.size = H) : ∀ j, j < 5 → (W.alloc (.cells #[.int .u8 r.kind, .string (bs r.name), .slice r.ad r.n r.c, .bool r.self, .string (bs r.text)] 25)).cell? ((⟨H, 0, none⟩ : Addr).add j) = (tokRow r)[j]? := by
  intro j hj
  subst hH
  rw [addr_add, Nat.zero_add, (BlkW.new W _ _).cell j]
  match j, hj with
  | 0, _ => rfl
  | 1, _ => rfl
  | 2, _ => rfl
  | 3, _ => rfl
  | 4, _ => rfl
theorem own_new {w W : World} {base m : Nat} {v : Value} {ts : List Lex.T} (h : OwnT W base m v ts) (o : Obj) : OwnT (W.alloc o) base m v ts := h.below ((Below.refl W.heap.size W).alloc (Nat.le_refl _) o)
theorem fits_new {W : World} {m : Nat} {r : TokR} {t : Lex.T} (h : Fits W m r t) (o : Obj) : Fits (W.alloc o) m r t := h.below ((Below.refl W.heap.size W).alloc (Nat.le_refl _) o)
end Go.Proofs.YtgldgdopabmefaaDoor
