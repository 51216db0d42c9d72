/- Plain Lean: what kinds of tokens there are, and text that is written with its signs escaped. Nothing of a program stands here. -/
import Derived.Test.YtgldgdopabmefaaGreatDoorLoopJ
import Derived.Test.YtgldgdopabmefaaGreatDoorMeanText
namespace Go.Proofs.YtgldgdopabmefaaGreatDoor.Lex
open Go.Lib
set_option maxRecDepth 100000
set_option linter.unusedVariables false

/-! ### Kinds -/
theorem decode_ne (attr : Bool) {l : List UInt8} (h : l ≠ []) : Ent.decode attr l ≠ [] := by
  cases l with
  | nil => exact absurd rfl h
  | cons c r =>
    by_cases hc : c = 38
    · subst hc
      rw [Ent.decode_amp]
      exact fun e => (Ent.refer_le attr r).2.2 (List.append_eq_nil_iff.1 e).1
    · rw [Ent.decode_other _ _ _ hc]
      exact List.cons_ne_nil _ _
theorem first_kind (r : List UInt8) : (Note.first r false).1 ≠ 1 := by
  unfold Note.first
  rw [Bool.and_false]
  split
  · show (4 : Nat) ≠ 1; decide
  split
  · show (5 : Nat) ≠ 1; decide
  rw [if_neg (by decide)]
  split
  · show (0 : Nat) ≠ 1; decide
  · show (4 : Nat) ≠ 1; decide
/-- What a token may be: not the last one; a text is not empty. -/
def Good (t : T) : Prop := 1 ≤ t.kind ∧ t.kind ≤ 5 ∧ (t.kind = 1 → t.text ≠ [])
theorem mark_kind {l : List UInt8} {j : Nat} (hj : j < l.length) (hm : (mark l false j).2.2 = false) : (mark l false j).1 = last ∨ Good (mark l false j).1 := by
  cases h1 : Tag.begB l j with
  | true =>
    cases hr : Tag.readP l j with
    | none => rw [mark_none h1 hr]; exact .inl rfl
    | some x =>
      obtain ⟨t, m⟩ := x
      rw [mark_tag h1 hr]
      have hk : t.kind = 2 ∨ t.kind = 3 := by
        unfold Tag.readP at hr
        cases hx : Tag.runs l (Tag.nameEnd l j) [] with
        | none => rw [hx] at hr; cases hr
        | some y =>
          rw [hx] at hr
          simp only [Option.some.injEq, Prod.mk.injEq] at hr
          rw [← hr.1]
          show (if Tag.isEnd l j = true then 3 else 2) = 2 ∨ (if Tag.isEnd l j = true then 3 else 2) = 3
          split
          · exact .inr rfl
          · exact .inl rfl
      refine .inr ⟨?_, ?_, ?_⟩
      · show 1 ≤ t.kind; omega
      · show t.kind ≤ 5; omega
      · show t.kind = 1 → _; intro h; omega
  | false =>
    cases h2 : Note.begB (l.drop j) with
    | true =>
      obtain ⟨⟨k, t, n⟩, hf⟩ : ∃ F, Note.first (l.drop j) false = F := ⟨_, rfl⟩
      obtain ⟨_, _, f3, _⟩ := Note.first_form false h2
      have f4 := first_kind (l.drop j)
      rw [hf] at f3 f4
      simp only at f3 f4
      rw [mark_note h1 h2 hf] at hm ⊢
      simp only [decide_eq_false_iff_not] at hm
      refine .inr ⟨?_, ?_, ?_⟩
      · show 1 ≤ k; omega
      · show k ≤ 5; omega
      · show k = 1 → _; intro h; exact absurd h f4
    | false =>
      have h3 := upM_ge l (j + 1) (by omega)
      rw [mark_text h1 h2 rfl]
      refine .inr ⟨Nat.le_refl _, by show 1 ≤ 5; decide, fun _ => decode_ne false ?_⟩
      intro h
      have := congrArg List.length h
      rw [List.length_take, List.length_drop, List.length_nil] at this
      omega
theorem next_kind (l small : List UInt8) (mode : Nat) : ∀ (n i : Nat), l.length ≤ n + i → next l small mode false i = (last, l.length) ∨ Good (next l small mode false i).1
  | 0, i, h => .inl (next_end (by omega))
  | n + 1, i, h => by
    by_cases hi : l.length ≤ i
    · exact .inl (next_end hi)
    by_cases hr : rawM mode = true ∧ rawT l small mode i ≠ []
    · rw [next_raw hi hr.1 hr.2]
      exact .inr ⟨Nat.le_refl _, by show 1 ≤ 5; decide, fun _ => hr.2⟩
    have hj := from_le (small := small) (mode := mode) (show i ≤ l.length by omega)
    by_cases ho : l.length ≤ from_ l small mode i
    · rw [next_eq, if_neg hi, if_neg hr, if_pos ho]
      exact .inl (by rw [show from_ l small mode i = l.length by omega])
    have hH : Here l small mode i (from_ l small mode i) := ⟨hi, fun hm => by
      cases hc : rawT l small mode i with
      | nil => rfl
      | cons a r => exact absurd ⟨hm, by rw [hc]; exact fun e => by cases e⟩ hr, rfl, by omega⟩
    cases hm : (mark l false (from_ l small mode i)).2.2 with
    | true =>
      rw [next_go hH hm]
      have h2 := mark_more hm
      exact next_kind l small mode n _ (by omega)
    | false =>
      rw [next_stay hH hm]
      rcases mark_kind (show from_ l small mode i < l.length by omega) hm with h3 | h3
      · rcases mark_grow (cd := false) (show from_ l small mode i < l.length by omega) with ⟨h4, h5⟩ | ⟨_, _, h6⟩
        · exact .inl (by rw [h4, h5])
        · exact absurd (by rw [h3]; rfl) h6
      · exact .inr h3
/-- All that is asked of a token in turn. -/
theorem next_all (l : List UInt8) (i : Nat) : next l [60, 47] 0 false i = (last, l.length) ∨ (i < (next l [60, 47] 0 false i).2 ∧ (next l [60, 47] 0 false i).2 ≤ l.length ∧ Good (next l [60, 47] 0 false i).1) := by
  rcases next_grow l [60, 47] 0 false l.length i (by omega) with h | ⟨h1, h2, h3⟩
  · exact .inl h
  rcases next_kind l [60, 47] 0 l.length i (by omega) with h | h
  · exact .inl h
  · exact .inr ⟨h1, h2, h⟩

theorem all_len (l : List UInt8) : ∀ (n i : Nat), l.length ≤ n + i → (allAt l i).length ≤ l.length - i
  | n, i, h => by
    by_cases h6 : (next l [60, 47] 0 false i).1.kind = 6
    · rw [allAt_end h6]
      exact Nat.zero_le _
    · rcases next_grow l [60, 47] 0 false l.length i (by omega) with hg | ⟨h1, h2, _⟩
      · rw [hg] at h6
        exact absurd rfl h6
      · rw [allAt_go h6, List.length_cons]
        match n, h with
        | 0, h => omega
        | n + 1, h =>
          have := all_len l n (next l [60, 47] 0 false i).2 (by omega)
          omega

/-! ### Text with its signs escaped -/
def escB (c : UInt8) : List UInt8 := if c = 38 then [38, 97, 109, 112, 59] else if c = 60 then [38, 108, 116, 59] else [c]
def escl (x : List UInt8) : List UInt8 := x.flatMap escB
theorem escl_cons (c : UInt8) (r : List UInt8) : escl (c :: r) = escB c ++ escl r := rfl
theorem escl_append (a b : List UInt8) : escl (a ++ b) = escl a ++ escl b := by unfold escl; rw [List.flatMap_append]
theorem escB_len (c : UInt8) : 1 ≤ (escB c).length ∧ (escB c).length ≤ 5 := by
  unfold escB
  split
  · decide
  split
  · decide
  · exact ⟨Nat.le_refl _, by show 1 ≤ 5; decide⟩
theorem escl_len : ∀ x, x.length ≤ (escl x).length ∧ (escl x).length ≤ 5 * x.length
  | [] => ⟨Nat.le_refl _, Nat.le_refl _⟩
  | c :: r => by
    rw [escl_cons, List.length_append, List.length_cons]
    have h1 := escB_len c
    have h2 := escl_len r
    omega
theorem escB_no (c : UInt8) : ∀ d ∈ escB c, d ≠ 60 := by
  unfold escB
  split
  · decide
  split
  · decide
  · rename_i h1 h2
    intro d hd
    rw [List.mem_singleton.1 hd]
    exact h2
theorem escl_no (x : List UInt8) : ∀ d ∈ escl x, d ≠ 60 := by
  intro d hd
  obtain ⟨c, _, hc⟩ := List.mem_flatMap.1 hd
  exact escB_no c d hc
theorem lt_in : (([108, 116], 60, 0, true) : Ent.Row) ∈ Ent.tab := by decide +kernel
theorem refer_lt (attr : Bool) (r : List UInt8) : Ent.refer attr (108 :: 116 :: 59 :: r) = ([60], 3) := by
  have hd : Ent.digs (108 :: 116 :: 59 :: r) = [] := by
    unfold Ent.digs
    rw [if_neg (fun h => absurd h.2 (by show ¬ (108 : UInt8).toNat = 35; decide))]
  have hn : Ent.named (108 :: 116 :: 59 :: r) = ([60], 3) := Ent.named_semi lt_in ⟨r, rfl⟩
  unfold Ent.refer
  rw [if_neg (fun h => h hd), hn, if_neg]
  rintro (h | h)
  · simp at h
  · unfold Ent.refuses at h
    rw [hn] at h
    have : U8.B (108 :: 116 :: 59 :: r) (3 - 1) = 59 := rfl
    simp [this] at h
theorem decode_escl (attr : Bool) : ∀ l, Ent.decode attr (escl l) = l
  | [] => rfl
  | c :: r => by
    rw [escl_cons]
    unfold escB
    by_cases hc : c = 38
    · rw [if_pos hc]
      show Ent.decode attr (38 :: 97 :: 109 :: 112 :: 59 :: escl r) = c :: r
      rw [Ent.decode_amp, Ent.refer_amp]
      show [38] ++ Ent.decode attr (escl r) = c :: r
      rw [decode_escl attr r, hc]; rfl
    · rw [if_neg hc]
      by_cases h60 : c = 60
      · rw [if_pos h60]
        show Ent.decode attr (38 :: 108 :: 116 :: 59 :: escl r) = c :: r
        rw [Ent.decode_amp, refer_lt]
        show [60] ++ Ent.decode attr (escl r) = c :: r
        rw [decode_escl attr r, h60]; rfl
      · rw [if_neg h60]
        show Ent.decode attr (c :: escl r) = c :: r
        rw [Ent.decode_other attr c _ hc, decode_escl attr r]
theorem pre_less {r t : List UInt8} (h : hasPrefix r (60 :: t) = true) : (60 : UInt8) ∈ r := by
  obtain ⟨u, rfl⟩ := List.isPrefixOf_iff_prefix.1 h
  simp
theorem markB_no {l : List UInt8} (hl : ∀ d ∈ l, d ≠ 60) (k : Nat) : Tag.begB l k = false ∧ Note.begB (l.drop k) = false := by
  have hp : ∀ t, hasPrefix (l.drop k) (60 :: t) = false := fun t => by
    cases h : hasPrefix (l.drop k) (60 :: t) with
    | false => rfl
    | true => exact absurd rfl (hl 60 (List.mem_of_mem_drop (pre_less h)))
  refine ⟨?_, ?_⟩
  · cases h : Tag.begB l k with
    | false => rfl
    | true =>
      exfalso
      unfold Tag.begB at h
      simp only [Bool.and_eq_true, decide_eq_true_eq, beq_iff_eq] at h
      have hk : k < l.length := by omega
      have hb := h.1.2
      rw [U8.B_eq (List.getElem?_eq_getElem hk)] at hb
      exact hl l[k] (List.getElem_mem hk) (UInt8.toNat_inj.1 hb)
  · unfold Note.begB
    rw [hp [33], hp [63], hp [47]]
    rfl
theorem upM_all {l : List UInt8} (hl : ∀ d ∈ l, d ≠ 60) : ∀ (n k : Nat), l.length = n + k → upM l k = l.length
  | 0, k, h => by rw [upM_end (by omega)]; omega
  | n + 1, k, h => by
    have h1 := markB_no hl k
    rw [upM_no (by unfold markB; rw [h1.1, h1.2]; rfl) (by omega)]
    exact upM_all hl n (k + 1) (by omega)
theorem next_text {l : List UInt8} (small : List UInt8) (cd : Bool) (hl : ∀ d ∈ l, d ≠ 60) (h0 : 0 < l.length) : next l small 0 cd 0 = (ofText 1 (Ent.decode false l), l.length) := by
  have hH : Here l small 0 0 0 := ⟨by omega, fun h => absurd h (by decide), rfl, h0⟩
  have h1 := markB_no hl 0
  have hm : mark l cd 0 = (ofText 1 (Ent.decode false l), l.length, false) := by
    rw [mark_text h1.1 h1.2 (upM_all hl (l.length - 1) (0 + 1) (by omega)), List.drop_zero, Nat.sub_zero, List.take_length]
  rw [next_stay hH (by rw [hm]), hm]
theorem all_escl {x : List UInt8} (h : x ≠ []) : allAt (escl x) 0 = [ofText 1 x] := by
  have hx : 0 < x.length := List.length_pos_iff.2 h
  have hn := next_text [60, 47] false (escl_no x) (by have := escl_len x; omega)
  rw [decode_escl] at hn
  rw [allAt_go (by rw [hn]; show (1 : Nat) ≠ 6; decide), hn]
  show ofText 1 x :: allAt (escl x) (escl x).length = _
  rw [allAt_end (by rw [next_end (Nat.le_refl _)]; rfl)]
theorem all_nil : allAt [] 0 = [] := by rw [allAt_end (by rw [next_end (Nat.zero_le _)]; rfl)]
end Go.Proofs.YtgldgdopabmefaaGreatDoor.Lex
