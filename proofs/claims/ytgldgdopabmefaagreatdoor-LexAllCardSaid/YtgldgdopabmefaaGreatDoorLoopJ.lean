/- Plain Lean: tokens go on, and all of them. Nothing of a program stands here. Laws: lists of tokens in memory (a struct of five cells, its list of attributes in a block of its own), made by the call itself. Laws: a range over a function, in a function that is in no round itself; all its rounds go on. Laws: a token appended to a list that the call itself made, within a fence. What holds between two rounds of a loop over a function that hands out tokens and appends each to a list (package lex, All). -/
import Derived.Test.YtgldgdopabmefaaGreatDoorTagV
import Derived.Test.YtgldgdopabmefaaGreatDoorTagForm
import Derived.Test.YtgldgdopabmefaaGreatDoorRawTag
import Derived.Test.YtgldgdopabmefaaGreatDoorProg
import Derived.RangeFuncBox
import Derived.RangeFuncLeaves
import Derived.Shelf.Abstract
import Derived.WalkKit
import Derived.OwnWalkIn
import Derived.TacticsInMore
import Derived.LoopNIn
import Derived.LoopIn
import Derived.Maps.OwnIn
namespace Go.Proofs.YtgldgdopabmefaaGreatDoor.Lex
open Go.Lib
set_option maxRecDepth 100000
set_option linter.unusedVariables false

theorem mark_grow {l : List UInt8} {cd : Bool} {j : Nat} (hj : j < l.length) : ((mark l cd j).1 = last ∧ (mark l cd j).2.1 = l.length) ∨ (j < (mark l cd j).2.1 ∧ (mark l cd j).2.1 ≤ l.length ∧ (mark l cd j).1.kind ≠ 6) := by
  cases h1 : Tag.begB l j with
  | true =>
    cases hr : Tag.readP l j with
    | none => rw [mark_none h1 hr]; exact .inl ⟨rfl, rfl⟩
    | some x =>
      obtain ⟨t, m⟩ := x
      rw [mark_tag h1 hr]
      obtain ⟨f1, f2, _⟩ := Tag.read_form h1 hr
      refine .inr ⟨f1, f2, ?_⟩
      show t.kind ≠ 6
      unfold Tag.readP at hr
      cases hx : Tag.runs l (Tag.nameEnd l j) [] with
      | none => rw [hx] at hr; cases hr
      | some y =>
        rw [hx] at hr
        simp only [Option.some.injEq, Prod.mk.injEq] at hr
        rw [← hr.1]
        show (if Tag.isEnd l j = true then 3 else 2) ≠ 6
        split <;> decide
  | false =>
    cases h2 : Note.begB (l.drop j) with
    | true =>
      obtain ⟨⟨k, t, n⟩, hf⟩ : ∃ F, Note.first (l.drop j) cd = F := ⟨_, rfl⟩
      obtain ⟨f1, f2, f3, _⟩ := Note.first_form cd h2
      rw [hf, List.length_drop] at f1
      rw [hf] at f2 f3
      rw [mark_note h1 h2 hf]
      simp only at f1 f2 f3
      refine .inr ⟨by show j < j + n; omega, by show j + n ≤ _; omega, ?_⟩
      show k ≠ 6
      omega
    | false =>
      have h3 := upM_ge l (j + 1) (by omega)
      rw [mark_text h1 h2 rfl]
      exact .inr ⟨by show j < upM l (j + 1); omega, h3.2, by show (1 : Nat) ≠ 6; decide⟩
theorem rawT_far {l small : List UInt8} {mode i : Nat} (h : rawT l small mode i ≠ []) : i < rawE l small mode i := by
  unfold rawT at h
  unfold rawE
  rcases Nat.eq_zero_or_pos (Raw.far small mode (l.drop i)) with h0 | h0
  · rw [h0, List.take_zero] at h
    exact absurd (by unfold Raw.textOf; split; · exact Ent.decode_nil false
                     · rfl) h
  · omega
/-- A token goes on, or it is the last one, at the end. -/
theorem next_grow (l small : List UInt8) (mode : Nat) (cd : Bool) : ∀ (n i : Nat), l.length ≤ n + i → next l small mode cd i = (last, l.length) ∨ (i < (next l small mode cd i).2 ∧ (next l small mode cd i).2 ≤ l.length ∧ (next l small mode cd i).1.kind ≠ 6)
  | 0, i, h => .inl (next_end (by omega))
  | n + 1, i, h => by
    by_cases hi : l.length ≤ i
    · exact .inl (next_end hi)
    by_cases hr : rawM mode = true ∧ rawT l small mode i ≠ []
    · rw [next_raw hi hr.1 hr.2]
      exact .inr ⟨rawT_far hr.2, (rawE_le (by omega)).2, by show (1 : Nat) ≠ 6; decide⟩
    have hj := from_le (small := small) (mode := mode) (show i ≤ l.length by omega)
    by_cases ho : l.length ≤ from_ l small mode i
    · rw [next_eq, if_neg hi, if_neg hr, if_pos ho]
      exact .inl (by rw [show from_ l small mode i = l.length by omega])
    have hH : Here l small mode i (from_ l small mode i) := ⟨hi, fun hm => by
      cases hc : rawT l small mode i with
      | nil => rfl
      | cons a r => exact absurd ⟨hm, by rw [hc]; exact fun e => by cases e⟩ hr, rfl, by omega⟩
    cases hm : (mark l cd (from_ l small mode i)).2.2 with
    | true =>
      rw [next_go hH hm]
      have h2 := mark_more hm
      rcases next_grow l small mode cd n (mark l cd (from_ l small mode i)).2.1 (by omega) with h3 | ⟨h3, h4, h5⟩
      · exact .inl h3
      · exact .inr ⟨by omega, h4, h5⟩
    | false =>
      rw [next_stay hH hm]
      rcases mark_grow (cd := cd) (show from_ l small mode i < l.length by omega) with ⟨h3, h4⟩ | ⟨h3, h4, h5⟩
      · exact .inl (by rw [h3, h4])
      · exact .inr ⟨by show i < _; omega, h4, h5⟩
/-- The tokens from a place on. -/
def allF (l : List UInt8) : Nat → Nat → List T
  | 0, _ => []
  | f + 1, i => if (next l [60, 47] 0 false i).1.kind = 6 then [] else (next l [60, 47] 0 false i).1 :: allF l f (next l [60, 47] 0 false i).2
theorem allF_fuel (l : List UInt8) : ∀ (f g i : Nat), l.length < f + i → l.length < g + i → allF l f i = allF l g i
  | 0, 0, i, _, _ => rfl
  | 0, g + 1, i, h, _ => by
    unfold allF
    rw [if_pos (by rw [next_end (by omega)]; rfl)]
  | f + 1, 0, i, _, h => by
    unfold allF
    rw [if_pos (by rw [next_end (by omega)]; rfl)]
  | f + 1, g + 1, i, hf, hg => by
    unfold allF
    rcases next_grow l [60, 47] 0 false l.length i (by omega) with h | ⟨h1, h2, h3⟩
    · rw [if_pos (by rw [h]; rfl), if_pos (by rw [h]; rfl)]
    · rw [if_neg h3, if_neg h3, allF_fuel l f g _ (by omega) (by omega)]
def allAt (l : List UInt8) (i : Nat) : List T := allF l (l.length + 1) i
theorem allAt_end {l : List UInt8} {i : Nat} (h : (next l [60, 47] 0 false i).1.kind = 6) : allAt l i = [] := by
  unfold allAt allF
  rw [if_pos h]
theorem allAt_go {l : List UInt8} {i : Nat} (h : (next l [60, 47] 0 false i).1.kind ≠ 6) : allAt l i = (next l [60, 47] 0 false i).1 :: allAt l (next l [60, 47] 0 false i).2 := by
  rcases next_grow l [60, 47] 0 false l.length i (by omega) with h1 | ⟨h1, h2, h3⟩
  · rw [h1] at h
    exact absurd rfl h
  · show allF l (l.length + 1) i = _
    unfold allF
    rw [if_neg h]
    unfold allAt
    rw [allF_fuel l l.length (l.length + 1) _ (by omega) (by omega)]
end Go.Proofs.YtgldgdopabmefaaGreatDoor.Lex
namespace Go.Proofs.YtgldgdopabmefaaGreatDoor
open Go.RowKit Go.Lib
set_option maxRecDepth 100000
set_option linter.unusedVariables false

/-- A token as it lies in memory. -/
structure TokR where
  kind : Nat
  name : List UInt8
  ad : Option Addr
  n : Nat
  c : Nat
  self : Bool
  text : List UInt8
def tokRow (r : TokR) : List Value := [.int .u8 r.kind, .string (bs r.name), .slice r.ad r.n r.c, .bool r.self, .string (bs r.text)]
def tokL (rs : List TokR) : List Value := rs.flatMap tokRow
theorem tokL_cons (r : TokR) (rs : List TokR) : tokL (r :: rs) = tokRow r ++ tokL rs := rfl
theorem tokL_append (a b : List TokR) : tokL (a ++ b) = tokL a ++ tokL b := by simp [tokL]
theorem tokL_len (rs : List TokR) : (tokL rs).length = rs.length * 5 := by
  induction rs with
  | nil => rfl
  | cons r t ih =>
    rw [tokL_cons, List.length_append, ih, List.length_cons]
    show 5 + t.length * 5 = _
    omega
theorem tokL_get : ∀ (rs : List TokR) (i : Nat) (r : TokR), rs[i]? = some r → ∀ j, j < 5 → (tokL rs)[i * 5 + j]? = (tokRow r)[j]?
  | [], i, r, h, j, hj => by simp at h
  | y :: t, 0, r, h, j, hj => by
    simp at h
    subst h
    rw [tokL_cons, Nat.zero_mul, Nat.zero_add, List.getElem?_append_left (by show j < 5; exact hj)]
  | y :: t, i + 1, r, h, j, hj => by
    rw [tokL_cons, List.getElem?_append_right (by show 5 ≤ _; omega), show (i + 1) * 5 + j - (tokRow y).length = i * 5 + j by show (i + 1) * 5 + j - 5 = _; omega]
    exact tokL_get t i r (by simpa using h) j hj
theorem tok_one (rs : List TokR) : ∀ u ∈ tokL rs, u.oneCell' = true := by
  intro u hu
  simp only [tokL, List.mem_flatMap] at hu
  obtain ⟨r, _, hr⟩ := hu
  simp [tokRow] at hr
  rcases hr with rfl | rfl | rfl | rfl | rfl <;> rfl
/-- It is that token: its attributes lie there, in a block of attributes. -/
def Fits (w : World) (m : Nat) (r : TokR) (t : Lex.T) : Prop := r.kind = t.kind ∧ r.name = t.name ∧ r.self = t.self ∧ r.text = t.text ∧ IsA w r.ad r.n t.atts ∧ r.n ≤ m ∧ TypB w r.ad
theorem Fits.heap {w w' : World} {m : Nat} {r : TokR} {t : Lex.T} (h : Fits w m r t) (hb : ∀ x, r.ad = some x → w'.heap[x.block]? = w.heap[x.block]?) : Fits w' m r t := by
  obtain ⟨h1, h2, h3, h4, h5, h6, h7⟩ := h
  exact ⟨h1, h2, h3, h4, isA_kept' h5 hb, h6, h7.heap hb⟩
theorem Fits.below {w w' : World} {m : Nat} {r : TokR} {t : Lex.T} (h : Fits w m r t) (hb : Below w.heap.size w w') : Fits w' m r t :=
  h.heap fun x hx => hb.block _ (h.2.2.2.2.2.2.lt x hx)
/-- A list of tokens that the call itself made. -/
def OwnT (w : World) (base m : Nat) (v : Value) (ts : List Lex.T) : Prop := ∃ rs : List TokR, w.ownsRow base 24 5 v ts.length (tokL rs) ∧ rs.length = ts.length ∧ ∀ (i : Nat) r t, rs[i]? = some r → ts[i]? = some t → Fits w m r t
theorem OwnT.nil (w : World) (base m : Nat) : OwnT w base m (.slice none 0 0) [] := ⟨[], World.ownsRow_nil _ _ _ _, rfl, fun i r t h => by simp at h⟩
theorem own_tblock {w : World} {base n : Nat} {v : Value} {xs : List Value} (h : w.ownsRow base 24 5 v n xs) : ∀ g, v.ownBlock = some g → ∃ cs, w.heap[g]? = some (.cells cs 24 (0, 0)) := by
  intro g hg
  obtain ⟨_, ⟨rfl, _⟩ | ⟨g', cap, cur, rfl, _, hc, _⟩⟩ := h
  · simp [Value.ownBlock] at hg
  · simp [Value.ownBlock] at hg
    subst hg
    exact ⟨cur, hc⟩
theorem OwnT.below {w w' : World} {base m : Nat} {v : Value} {ts : List Lex.T} (h : OwnT w base m v ts) (hb : Below w.heap.size w w') : OwnT w' base m v ts := by
  obtain ⟨rs, h1, h2, h3⟩ := h
  exact ⟨rs, own_below h1 hb, h2, fun i r t hr ht => (h3 i r t hr ht).below hb⟩
theorem info_tok : (Tryz.prog.info? 24).map (fun i => (i.zero, i.size, i.bytes)) = some (some (.agg #[.int .u8 0, .string ⟨#[]⟩, .slice none 0 0, .bool false, .string ⟨#[]⟩]), 5, 72) := by kernel_rfl
/-- 'append(out, t)', out the call's own. -/
theorem append_K {w : World} {ops : Array Oper} {rest : List Oper} {o : Oper} {a : Act} {Q : Exit → Act → World → Prop} (hgd : o.guard = none) (s x : Operand)
    (ho : o.op = .call { callee := .builtin .append, args := #[s, x], argTypes := #[31, 31] })
    (base m : Nat) (v : Value) (ts : List Lex.T) (hs : a.eval s = v) (hown : OwnT w base m v ts)
    (ad : Addr) (c : Nat) (r : TokR) (t : Lex.T) (hx : a.eval x = .slice (some ad) 1 c) (hnew : ∀ j, j < 5 → w.cell? (ad.add j) = (tokRow r)[j]?) (hf : Fits w m r t)
    (hlen : ts.length + 1 ≤ 1000000000) (hbase : base ≤ w.heap.size)
    (h : ∀ v' w', OwnT w' base m v' (ts ++ [t]) → w.grownBy w' v.ownBlock → wpList Tryz.prog ops Q rest (a.put o.dst v') w') : wpList Tryz.prog ops Q (o :: rest) a w := by
  obtain ⟨i0, hi, hz0, hz1, hz2⟩ := info_parts info_tok
  obtain ⟨rs, h1, h2, h3⟩ := hown
  refine wpList_append_own w hgd s x 31 ho base 24 i0 (.agg #[.int .u8 0, .string ⟨#[]⟩, .slice none 0 0, .bool false, .string ⟨#[]⟩]) 5 72 Tryz.underlying31 hi hz0 hz1 hz2 rfl (by decide) v ts.length (tokL rs) hs h1 ad 1 c (tokL [r]) hx rfl ?_ (tok_one [r]) (by unfold maxLen; omega) (by omega) hbase ?_
  · intro j u hj
    by_cases hj5 : j < 5
    · rw [hnew j hj5, ← hj]
      have := tokL_get [r] 0 r rfl j hj5
      rw [Nat.zero_mul, Nat.zero_add] at this
      exact this.symm
    · rw [List.getElem?_eq_none (by rw [tokL_len]; simp; omega)] at hj
      cases hj
  · intro v' w' g1 g2 _
    refine h v' w' ⟨rs ++ [r], ?_, by rw [List.length_append, List.length_append, h2]; rfl, ?_⟩ g2
    · rw [List.length_append, tokL_append]
      exact g1
    · have keep : ∀ r' t', Fits w m r' t' → Fits w' m r' t' := fun r' t' hf' => hf'.heap fun y hy => by
        refine g2.block _ (hf'.2.2.2.2.2.2.lt y hy) ?_
        intro e
        obtain ⟨cs, hc⟩ := own_tblock h1 y.block e.symm
        exact hf'.2.2.2.2.2.2.ne hc tok_ne_attr y hy rfl
      intro i r' t' hr ht
      rcases Nat.lt_or_ge i rs.length with hlt | hge
      · rw [List.getElem?_append_left hlt] at hr
        rw [List.getElem?_append_left (by omega)] at ht
        exact keep _ _ (h3 i r' t' hr ht)
      · rw [List.getElem?_append_right hge] at hr
        rw [List.getElem?_append_right (by omega), ← h2] at ht
        by_cases hz : i - rs.length = 0
        · rw [hz] at hr ht
          simp at hr ht
          subst hr; subst ht
          exact keep _ _ hf
        · rw [List.getElem?_eq_none (by simp; omega)] at hr
          cases hr
/-- A list of tokens. -/
def IsT (w : World) (a : Option Addr) (len m : Nat) (ts : List Lex.T) : Prop :=
  ∃ rs : List TokR, rs.length = len ∧ ts.length = len ∧ (len = 0 ∨ ∃ b off, a = some ⟨b, off, none⟩ ∧ ∀ (i : Nat) r, rs[i]? = some r → ∀ j, j < 5 → w.cell? ⟨b, off + i * 5 + j, none⟩ = (tokRow r)[j]?) ∧ ∀ (i : Nat) r t, rs[i]? = some r → ts[i]? = some t → Fits w m r t
theorem own_isK {w : World} {base m : Nat} {v : Value} {ts : List Lex.T} (h : OwnT w base m v ts) : ∃ a cap, v = .slice a ts.length cap ∧ IsT w a ts.length m ts ∧ ts.length ≤ cap ∧ cap ≤ maxLen := by
  obtain ⟨rs, ⟨_, ⟨rfl, h0⟩ | ⟨g, cap, cur, rfl, hb, hg, hn, hc, hcs, ht⟩⟩, h2, h3⟩ := h
  · exact ⟨none, 0, by rw [h0], ⟨rs, h2, rfl, .inl h0, h3⟩, by omega, by unfold maxLen; omega⟩
  · refine ⟨_, cap, rfl, ⟨rs, h2, rfl, .inr ⟨g, 0, rfl, fun i r hi j hj => ?_⟩, h3⟩, hn, hc⟩
    have hlt : i < rs.length := (List.getElem?_eq_some_iff.1 hi).1
    have h1 := tokL_get rs i r hi j hj
    rw [← ht, List.getElem?_take_of_lt (by omega)] at h1
    simp only [World.cell?, Nat.zero_add, hg]
    rw [← h1]
    simp
theorem IsT.below {w w' : World} {a : Option Addr} {len m : Nat} {ts : List Lex.T} (h : IsT w a len m ts) (hb : Below w.heap.size w w') : IsT w' a len m ts := by
  obtain ⟨rs, h1, h2, h3, h4⟩ := h
  refine ⟨rs, h1, h2, h3.elim .inl fun ⟨b, off, e, hat⟩ => .inr ⟨b, off, e, fun i r hi j hj => ?_⟩, fun i r t hr ht => (h4 i r t hr ht).below hb⟩
  have hc := hat i r hi j hj
  obtain ⟨u, hu⟩ : ∃ u, (tokRow r)[j]? = some u := ⟨_, List.getElem?_eq_getElem (by show j < 5; exact hj)⟩
  rw [hu] at hc ⊢
  exact (hb.cell (p := ⟨b, off + i * 5 + j, none⟩) (World.block_lt_of_cell? _ _ hc)).trans hc
/-- All tokens are told, as a list. -/
def AllE (l : List UInt8) (m : Nat) (e : Ending) (w' : World) : Prop := ∃ a cap, e = .returned (.slice a (Lex.allAt l 0).length cap) ∧ IsT w' a (Lex.allAt l 0).length m (Lex.allAt l 0) ∧ (Lex.allAt l 0).length ≤ m
theorem tok_new (W : World) (r : TokR) (H : Nat) (hH : W.heap.size = H) : ∀ j, j < 5 → (W.alloc (.cells #[.int .u8 r.kind, .string (bs r.name), .slice r.ad r.n r.c, .bool r.self, .string (bs r.text)] 24)).cell? ((⟨H, 0, none⟩ : Addr).add j) = (tokRow r)[j]? := by
  intro j hj
  subst hH
  rw [addr_add, Nat.zero_add, (BlkW.new W _ _).cell j]
  match j, hj with
  | 0, _ => rfl
  | 1, _ => rfl
  | 2, _ => rfl
  | 3, _ => rfl
  | 4, _ => rfl
theorem own_new {w W : World} {base m : Nat} {v : Value} {ts : List Lex.T} (h : OwnT W base m v ts) (o : Obj) : OwnT (W.alloc o) base m v ts := h.below ((Below.refl W.heap.size W).alloc (Nat.le_refl _) o)
theorem fits_new {W : World} {m : Nat} {r : TokR} {t : Lex.T} (h : Fits W m r t) (o : Obj) : Fits (W.alloc o) m r t := h.below ((Below.refl W.heap.size W).alloc (Nat.le_refl _) o)
end Go.Proofs.YtgldgdopabmefaaGreatDoor
namespace Go.Proofs.YtgldgdopabmefaaGreatDoor
open Go.RowKit
set_option maxRecDepth 100000
set_option linter.unusedVariables false

variable {F : Fence} {n m : Nat} {P : Program}
/-- What the machine keeps of the loop. -/
def recOf (a : Act) (ps : Array Tmp) (as' bd : Code) (fn : FuncId) (D : Nat) (st : LoopState) : Loop := { state := st, pending := none, fn := fn, tmps := a.tmps, params := ps, assign := as', body := bd, defers := D }
/-- The statement: the call of the function, in a world with the loop's record; it stands ready again behind the call. -/
theorem range_at {g : Operand} {ps : Array Tmp} {as' bd : Code} {Q : Exit → Act → World → Prop} {a : Act} {w : World} (hro : F.round = none) (hd : F.depth.isSome = true → 1 ≤ n)
    {gf : Nat} {lb : Array Value} (hg : a.eval g = .func (.func gf) #[] lb) (hF : F.fn gf) (eg : ∀ args w, (callFunc gf args).run P w = .ok (.enter gf args) w)
    (h : ∀ fn, F.fn fn → CallsIn F (n - 1) P gf (#[.func (.yield (w.heap.size + 1)) #[] #[]] ++ lb) ((w.alloc (.deferred (some []))).alloc (.loop (recOf a ps as' bd fn w.heap.size .ready))) fun e W =>
      (∃ v, e = .returned v) ∧ W.heap[w.heap.size + 1]? = some (.loop (recOf a ps as' bd fn w.heap.size .ready)) ∧
        Q .normal { a with defers := { target := .collected w.heap.size, args := #[] } :: a.defers } (W.putObj (w.heap.size + 1) (.loop (recOf a ps as' bd fn w.heap.size .exhausted)))) :
    (Code.rangeFunc g ps as' bd).wpIn F n P Q a w := by
  refine wpIn_rangeFunc fun fn hfn => ?_
  obtain ⟨W1, hW1⟩ : ∃ W1, (w.alloc (.deferred (some []))).alloc (.loop (recOf a ps as' bd fn w.heap.size .ready)) = W1 := ⟨_, rfl⟩
  have he : (Instr.enterLoop fn a.tmps ps as' bd F.round).run P w = .ok (w.heap.size + 1, [{ target := .collected w.heap.size, args := #[] }]) W1 := by
    rw [hro, ← hW1]
    exact run_enterLoop_outer fn a.tmps ps as' bd
  have hc := h fn hfn
  rw [hW1] at hc
  refine ⟨w.heap.size + 1, [{ target := .collected w.heap.size, args := #[] }], W1, { target := .fn (.func gf) lb, args := #[.func (.yield (w.heap.size + 1)) #[] #[]] }, W1, gf, #[.func (.yield (w.heap.size + 1)) #[] #[]] ++ lb, W1, he, ?r1, ?r2, ?r3, hd, ?r4⟩
  case r1 =>
    simp only [resolve, hg]
    simp [go_sem]
  case r2 =>
    intro f hf
    simp [Target.leads] at hf
    subst hf
    exact hF
  case r3 => simp [invoke, go_sem, eg]
  case r4 =>
    refine CallsIn.mono hc ?_
    rintro e W ⟨⟨v, rfl⟩, hl, hq⟩
    have hx : (Instr.endLoop (w.heap.size + 1)).run P W = .ok none (W.putObj (w.heap.size + 1) (.loop (recOf a ps as' bd fn w.heap.size .exhausted))) := run_endLoop hl (by simp [recOf])
    exact ⟨none, _, hx, hq⟩
/-- The record while a round runs. -/
def busyR (r : Loop) : Loop := { r with state := .busy }
/-- What is asked at the end of a round. -/
def roundEnd (l : Nat) (r : Loop) (R : Ending → World → Prop) : Exit → Act → World → Prop
  | .normal, _, W => W.heap[l]? = some (.loop (busyR r)) ∧ R (.returned (.bool true)) (W.putObj l (.loop r))
  | _, _, _ => False
/-- A call of yield: one round. -/
theorem round_at {l : Nat} {W : World} {r : Loop} {args : Array Value} {R : Ending → World → Prop} (hl : W.heap[l]? = some (.loop r)) (hst : r.state = .ready) (hpe : r.pending = none) (hps : args.size = r.params.size) (hF : F.fn r.fn)
    (h : r.assign.wpIn (F.inRound l) m P (Exit.then (fun a1 W1 => W1.heap[l]? = some (.loop r) ∧ r.body.wpIn (F.inRound l) m P (roundEnd l r R) a1 (W1.putObj l (.loop (busyR r)))) (fun _ _ _ => False))
      { tmps := (r.params.zip args).foldl (fun t (p, v) => t.setIfInBounds p v) r.tmps, defers := [] } W) : YieldAt F m P l args W R := by
  refine ⟨_, _, _, _, run_yield hl hps, roundIn_of_wpIn hF (wpIn_mono h ?_)⟩
  intro e a1 W1 hq
  cases e with
  | normal =>
    obtain ⟨h1, h2⟩ := hq
    refine ⟨_, run_beginRound h1 hst, wpIn_mono h2 ?_⟩
    intro e a2 W2 hq
    cases e with
    | normal =>
      obtain ⟨k1, k2⟩ := hq
      have he := run_endRound (P := P) none k1
      have hr : ({ busyR r with state := if (none : Option Code).isNone then .ready else .done, pending := none } : Loop) = r := by
        cases r
        simp at hst hpe
        simp [busyR, hst, hpe]
      rw [hr] at he
      exact ⟨_, _, he, k2⟩
    | exit id => exact hq.elim
    | goto t => exact hq.elim
    | ret => exact hq.elim
    | panic ch => exact hq.elim
    | outgrown => exact hq.elim
  | exit id => exact hq.elim
  | goto t => exact hq.elim
  | ret => exact hq.elim
  | panic ch => exact hq.elim
  | outgrown => exact hq.elim
end Go.Proofs.YtgldgdopabmefaaGreatDoor
namespace Go.Proofs.YtgldgdopabmefaaGreatDoor
open Go.RowKit Go.Lib
set_option maxRecDepth 100000
set_option linter.unusedVariables false

/-- 'append(out, t)', out the call's own. -/
theorem appendIn_K {F : Fence} {nF : Nat} {w : World} {ops : Array Oper} {rest : List Oper} {o : Oper} {a : Act} {Q : Exit → Act → World → Prop} (hgd : o.guard = none) (s x : Operand)
    (ho : o.op = .call { callee := .builtin .append, args := #[s, x], argTypes := #[31, 31] })
    (base m : Nat) (v : Value) (ts : List Lex.T) (hs : a.eval s = v) (hown : OwnT w base m v ts)
    (ad : Addr) (c : Nat) (r : TokR) (t : Lex.T) (hx : a.eval x = .slice (some ad) 1 c) (hnew : ∀ j, j < 5 → w.cell? (ad.add j) = (tokRow r)[j]?) (hf : Fits w m r t)
    (hlen : ts.length + 1 ≤ 1000000000) (hbase : base ≤ w.heap.size)
    (h : ∀ v' w', OwnT w' base m v' (ts ++ [t]) → w.grownBy w' v.ownBlock → (v'.ownBlock = v.ownBlock ∨ v'.ownBlock = some w.heap.size) → wpListIn F nF Tryz.prog ops Q rest (a.put o.dst v') w') : wpListIn F nF Tryz.prog ops Q (o :: rest) a w := by
  obtain ⟨i0, hi, hz0, hz1, hz2⟩ := info_parts info_tok
  obtain ⟨rs, h1, h2, h3⟩ := hown
  refine wpListIn_append_own_at w hgd s x 31 ho base 24 i0 (.agg #[.int .u8 0, .string ⟨#[]⟩, .slice none 0 0, .bool false, .string ⟨#[]⟩]) 5 72 Tryz.underlying31 hi hz0 hz1 hz2 rfl (by decide) v ts.length (tokL rs) hs h1 ad 1 c (tokL [r]) hx rfl ?_ (tok_one [r]) (by unfold maxLen; omega) (by omega) hbase ?_
  · intro j u hj
    by_cases hj5 : j < 5
    · rw [hnew j hj5, ← hj]
      have := tokL_get [r] 0 r rfl j hj5
      rw [Nat.zero_mul, Nat.zero_add] at this
      exact this.symm
    · rw [List.getElem?_eq_none (by rw [tokL_len]; simp; omega)] at hj
      cases hj
  · intro v' w' g1 g2 _ g4
    refine h v' w' ⟨rs ++ [r], ?_, by rw [List.length_append, List.length_append, h2]; rfl, ?_⟩ g2 g4
    · rw [List.length_append, tokL_append]
      exact g1
    · have keep : ∀ r' t', Fits w m r' t' → Fits w' m r' t' := fun r' t' hf' => hf'.heap fun y hy => by
        refine g2.block _ (hf'.2.2.2.2.2.2.lt y hy) ?_
        intro e
        obtain ⟨cs, hc⟩ := own_tblock h1 y.block e.symm
        exact hf'.2.2.2.2.2.2.ne hc tok_ne_attr y hy rfl
      intro i r' t' hr ht
      rcases Nat.lt_or_ge i rs.length with hlt | hge
      · rw [List.getElem?_append_left hlt] at hr
        rw [List.getElem?_append_left (by omega)] at ht
        exact keep _ _ (h3 i r' t' hr ht)
      · rw [List.getElem?_append_right hge] at hr
        rw [List.getElem?_append_right (by omega), ← h2] at ht
        by_cases hz : i - rs.length = 0
        · rw [hz] at hr ht
          simp at hr ht
          subst hr; subst ht
          exact keep _ _ hf
        · rw [List.getElem?_eq_none (by simp; omega)] at hr
          cases hr
end Go.Proofs.YtgldgdopabmefaaGreatDoor
namespace Go.Proofs.YtgldgdopabmefaaGreatDoor
open Go.RowKit Go.Lib
set_option maxRecDepth 100000
set_option linter.unusedVariables false

/-- The list in block H, the text in the next one, then the block of deferred calls and the loop's record. -/
structure LoopJ (w : World) (r : Loop) (m : Nat) (s : ByteArray) (ts : List Lex.T) (v : Value) (W : World) : Prop where
  rcd : W.heap[w.heap.size + 3]? = some (.loop r)
  dfr : W.heap[w.heap.size + 2]? = some (.deferred (some []))
  box : BlkW W w.heap.size #[v] 31
  str : BlkW W (w.heap.size + 1) #[.string s] 9
  own : OwnT W w.heap.size m v ts
  below : Below w.heap.size w W
theorem blk_of_heap {W W' : World} {g : Nat} {cs : Array Value} {t : TypeId} (h : BlkW W g cs t) (he : W'.heap[g]? = W.heap[g]?) : BlkW W' g cs t := he.trans h
theorem LoopJ.lt {w W : World} {r : Loop} {m : Nat} {s : ByteArray} {ts : List Lex.T} {v : Value} (h : LoopJ w r m s ts v W) : w.heap.size + 3 < W.heap.size := (Array.getElem?_eq_some_iff.1 h.rcd).1
theorem OwnT.keep {w w' : World} {base m b : Nat} {v : Value} {ts : List Lex.T} {cs : Array Value} {T : TypeId} (h : OwnT w base m v ts) (hg : w.grownBy w' (some b)) (hv : v.ownBlock ≠ some b) (hb : BlkW w b cs T) (hT : T ≠ 53) : OwnT w' base m v ts := by
  obtain ⟨rs, h1, h2, h3⟩ := h
  refine ⟨rs, h1.kept hg (.inr hv), h2, fun i r' t' hr ht => ?_⟩
  have hf := h3 i r' t' hr ht
  refine hf.heap fun y hy => hg.block _ (hf.2.2.2.2.2.2.lt y hy) ?_
  intro e
  exact hf.2.2.2.2.2.2.ne hb hT y hy (Option.some.inj e)
theorem OwnT.turn {w : World} {base m b : Nat} {v : Value} {ts : List Lex.T} {x : Obj} (h : OwnT w base m v ts) (hb : w.heap[b]? = some x) (hx : ∀ cs t fr, x ≠ .cells cs t fr) (o : Obj) : OwnT (w.putObj b o) base m v ts ∧ v.ownBlock ≠ some b := by
  obtain ⟨rs, h1, h2, h3⟩ := h
  have hv : v.ownBlock ≠ some b := by
    intro e
    obtain ⟨cs, hc⟩ := own_tblock h1 b e
    rw [hb] at hc
    exact hx _ _ _ (Option.some.inj hc)
  refine ⟨⟨rs, h1.kept (grownBy_putObj' w b o) (.inr hv), h2, fun i r' t' hr ht => ?_⟩, hv⟩
  have hf := h3 i r' t' hr ht
  refine hf.heap fun y hy => World.putObj_heap_other ?_
  intro e
  obtain ⟨cs, fr, hc⟩ := hf.2.2.2.2.2.2 y hy
  rw [e, hb] at hc
  exact hx _ _ _ (Option.some.inj hc)
theorem OwnT.loop {w : World} {base m b : Nat} {v : Value} {ts : List Lex.T} {x : Loop} (h : OwnT w base m v ts) (hb : w.heap[b]? = some (.loop x)) (o : Obj) : OwnT (w.putObj b o) base m v ts ∧ v.ownBlock ≠ some b :=
  h.turn hb (fun _ _ _ e => by cases e) o
theorem Fits.loop {w : World} {m b : Nat} {r : TokR} {t : Lex.T} {x : Loop} (h : Fits w m r t) (hb : w.heap[b]? = some (.loop x)) (o : Obj) : Fits (w.putObj b o) m r t := by
  refine h.heap fun y hy => World.putObj_heap_other ?_
  intro e
  obtain ⟨cs, fr, hc⟩ := h.2.2.2.2.2.2 y hy
  rw [e, hb] at hc
  cases hc
/-- It abides the turn of a block of the function's own. -/
theorem LoopJ.keep {w W W' : World} {r : Loop} {m b : Nat} {s : ByteArray} {ts : List Lex.T} {v : Value} {cs : Array Value} {T : TypeId} (h : LoopJ w r m s ts v W) (hg : W.grownBy W' (some b)) (hv : v.ownBlock ≠ some b) (hb : BlkW W b cs T) (hT : T ≠ 53) (hD : w.heap.size + 4 ≤ b) : LoopJ w r m s ts v W' := by
  have hl := h.lt
  have hh : ∀ k, k < w.heap.size + 4 → W'.heap[k]? = W.heap[k]? := fun k hk => hg.block k (by omega) (by simp; omega)
  exact ⟨(hh _ (by omega)).trans h.rcd, (hh _ (by omega)).trans h.dfr, blk_of_heap h.box (hh _ (by omega)), blk_of_heap h.str (hh _ (by omega)), h.own.keep hg hv hb hT, h.below.grown hg h.below.size (fun k e => by cases e; omega)⟩
theorem LoopJ.later {w W W' : World} {r : Loop} {m : Nat} {s : ByteArray} {ts : List Lex.T} {v : Value} (h : LoopJ w r m s ts v W) (hb : Below W.heap.size W W') : LoopJ w r m s ts v W' := by
  have hl := h.lt
  have hh : ∀ k, k < w.heap.size + 4 → W'.heap[k]? = W.heap[k]? := fun k hk => hb.block k (by omega)
  exact ⟨(hh _ (by omega)).trans h.rcd, (hh _ (by omega)).trans h.dfr, blk_of_heap h.box (hh _ (by omega)), blk_of_heap h.str (hh _ (by omega)), h.own.below hb, h.below.trans (hb.mono h.below.size)⟩
/-- What a round leaves: the token is appended; whatever else lay, lies as it lay. -/
def Rounded (w : World) (r : Loop) (m : Nat) (s : ByteArray) (ts : List Lex.T) (t : Lex.T) (v : Value) (W : World) (e : Ending) (W' : World) : Prop :=
  e = .returned (.bool true) ∧ ∃ v', LoopJ w r m s (ts ++ [t]) v' W' ∧ (v'.ownBlock = v.ownBlock ∨ ∃ g, v'.ownBlock = some g ∧ W.heap.size ≤ g) ∧
    (∀ b, b < W.heap.size → b ≠ w.heap.size → b ≠ w.heap.size + 3 → v.ownBlock ≠ some b → W'.heap[b]? = W.heap[b]?) ∧ W.heap.size ≤ W'.heap.size
theorem OwnT.not {w : World} {base m b : Nat} {v : Value} {ts : List Lex.T} {o : Obj} (h : OwnT w base m v ts) (hb : w.heap[b]? = some o) (ho : ∀ cs, o ≠ .cells cs 24 (0, 0)) : v.ownBlock ≠ some b := by
  obtain ⟨rs, h1, _, _⟩ := h
  intro e
  obtain ⟨cs, hc⟩ := own_tblock h1 b e
  rw [hb] at hc
  exact ho cs (Option.some.inj hc)
/-- A round's end: the box is written, the record stands ready again. -/
theorem rounded_mk {w W W2 w' : World} {r : Loop} {m : Nat} {s : ByteArray} {ts : List Lex.T} {t : Lex.T} {v v' : Value} {o : Obj} (hJ : LoopJ w r m s ts v W)
    (h2 : ∀ b, b < W.heap.size → b ≠ w.heap.size + 3 → W2.heap[b]? = W.heap[b]?) (hs2 : W.heap.size ≤ W2.heap.size) (hb2 : Below w.heap.size w W2) (hR : W2.heap[w.heap.size + 3]? = some (.loop (busyR r)))
    (own2 : OwnT w' w.heap.size m v' (ts ++ [t])) (hg : (W2.alloc o).grownBy w' v.ownBlock) (hloc : v'.ownBlock = v.ownBlock ∨ v'.ownBlock = some (W2.alloc o).heap.size) :
    (w'.setCell ⟨w.heap.size, 0, none⟩ v').heap[w.heap.size + 3]? = some (.loop (busyR r)) ∧ Rounded w r m s ts t v W (.returned (.bool true)) ((w'.setCell ⟨w.heap.size, 0, none⟩ v').putObj (w.heap.size + 3) (.loop r)) := by
  have hl := hJ.lt
  have n0 : v.ownBlock ≠ some w.heap.size := hJ.own.not hJ.box (by intro cs e; injection e with _ e2 _; exact absurd e2 (by decide))
  have n1 : v.ownBlock ≠ some (w.heap.size + 1) := hJ.own.not hJ.str (by intro cs e; injection e with _ e2 _; exact absurd e2 (by decide))
  have n2 : v.ownBlock ≠ some (w.heap.size + 2) := hJ.own.not hJ.dfr (by intro cs e; cases e)
  have n3 : v.ownBlock ≠ some (w.heap.size + 3) := hJ.own.not hJ.rcd (by intro cs e; cases e)
  have ha : ∀ b, b < W2.heap.size → (W2.alloc o).heap[b]? = W2.heap[b]? := fun b hb => Below.heap_alloc W2 o b hb
  have hsz : (W2.alloc o).heap.size = W2.heap.size + 1 := World.size_alloc _ _
  have hk : ∀ b, b < W2.heap.size → v.ownBlock ≠ some b → w'.heap[b]? = W2.heap[b]? := fun b hb hv => (hg.block b (by omega) (Ne.symm hv)).trans (ha b hb)
  have e3 : w'.heap[w.heap.size + 3]? = some (.loop (busyR r)) := (hk _ (by omega) n3).trans hR
  have e0 : BlkW w' w.heap.size #[v] 31 := blk_of_heap hJ.box ((hk _ (by omega) n0).trans (h2 _ (by omega) (by omega)))
  have hs3 : W2.heap.size ≤ w'.heap.size := by have := hg.size; omega
  have g1 : w'.grownBy (w'.setCell ⟨w.heap.size, 0, none⟩ v') (some w.heap.size) := ⟨rfl, rfl, rfl, by simp, fun k hk hne => Below.heap_setCell _ _ _ _ (fun e => hne (by rw [e]))⟩
  have v0 : v'.ownBlock ≠ some w.heap.size := own2.not e0 (by intro cs e; injection e with _ e2 _; exact absurd e2 (by decide))
  have o1 := own2.keep g1 v0 e0 (by decide)
  have s3 : (w'.setCell ⟨w.heap.size, 0, none⟩ v').heap[w.heap.size + 3]? = some (.loop (busyR r)) := (Below.heap_setCell _ _ _ _ (by show w.heap.size + 3 ≠ w.heap.size; omega)).trans e3
  obtain ⟨o2, _⟩ := o1.loop s3 (.loop r)
  have hall : ∀ b, b < W.heap.size → b ≠ w.heap.size → b ≠ w.heap.size + 3 → v.ownBlock ≠ some b → ((w'.setCell ⟨w.heap.size, 0, none⟩ v').putObj (w.heap.size + 3) (.loop r)).heap[b]? = W.heap[b]? := fun b h1 h3 h4 h5 =>
    (World.putObj_heap_other h4).trans ((Below.heap_setCell _ _ _ _ h3).trans ((hk b (by omega) h5).trans (h2 b h1 h4)))
  refine ⟨s3, rfl, v', ⟨World.putObj_heap_same (Array.getElem?_eq_some_iff.1 s3).1, (hall _ (by omega) (by omega) (by omega) n2).trans hJ.dfr,
    blk_of_heap (e0.set_ 0 v') (World.putObj_heap_other (by omega)), blk_of_heap hJ.str (hall _ (by omega) (by omega) (by omega) n1), o2, ?_⟩, ?_, hall, ?_⟩
  · have b1 : Below w.heap.size w w' := (hb2.alloc hb2.size o).grown hg (hb2.alloc hb2.size o).size (fun g e => by
      obtain ⟨rs, h1, _, _⟩ := hJ.own
      exact own_ge h1 g e)
    exact (b1.setCell (p := ⟨w.heap.size, 0, none⟩) (Nat.le_refl _) v').grown (grownBy_putObj' _ _ _) (by have := b1.size; simp; omega) (fun k e => by cases e; omega)
  · rcases hloc with h | h
    · exact .inl h
    · exact .inr ⟨_, h, by omega⟩
  · simp
    omega
end Go.Proofs.YtgldgdopabmefaaGreatDoor
