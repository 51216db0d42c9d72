/- Plain Lean: what package lex says, over lists of bytes: where markup begins next, the token at a place. Nothing of a program stands here. -/
import Derived.Test.YtgldgdopabmefaaDoorTagPl
import Derived.Test.YtgldgdopabmefaaDoorNotePl
import Derived.Test.YtgldgdopabmefaaDoorRawPl
namespace Go.Proofs.YtgldgdopabmefaaDoor.Lex
open Go.Lib
set_option maxRecDepth 100000
set_option linter.unusedVariables false

/-- A token, all fields. -/
structure T where
  kind : Nat
  name : List UInt8
  atts : List Tag.At
  self : Bool
  text : List UInt8
def last : T := ⟨6, [], [], false, []⟩
def ofText (k : Nat) (t : List UInt8) : T := ⟨k, [], [], false, t⟩
def ofTag (t : Tag.Tok) : T := ⟨t.kind, t.name, t.atts, t.self, []⟩
/-! ### Where markup begins -/
def markB (l : List UInt8) (k : Nat) : Bool := Tag.begB l k || Note.begB (l.drop k)
def upF (l : List UInt8) : Nat → Nat → Nat
  | 0, k => k
  | n + 1, k => if markB l k = true then k else upF l n (k + 1)
def upM (l : List UInt8) (k : Nat) : Nat := upF l (l.length - k) k
theorem upM_end {l : List UInt8} {k : Nat} (h : l.length ≤ k) : upM l k = k := by
  unfold upM
  rw [show l.length - k = 0 by omega]
  rfl
theorem upM_yes {l : List UInt8} {k : Nat} (h : markB l k = true) : upM l k = k := by
  unfold upM
  cases l.length - k with
  | zero => rfl
  | succ n => unfold upF; rw [if_pos h]
theorem upM_no {l : List UInt8} {k : Nat} (h : markB l k = false) (hk : k < l.length) : upM l k = upM l (k + 1) := by
  unfold upM
  rw [show l.length - k = (l.length - (k + 1)) + 1 by omega]
  show (if markB l k = true then k else upF l (l.length - (k + 1)) (k + 1)) = _
  rw [if_neg (by rw [h]; decide)]
theorem upF_ge (l : List UInt8) : ∀ n k, k ≤ upF l n k ∧ upF l n k ≤ k + n
  | 0, k => ⟨Nat.le_refl _, Nat.le_refl _⟩
  | n + 1, k => by
    unfold upF
    split
    · exact ⟨Nat.le_refl _, by omega⟩
    · have := upF_ge l n (k + 1)
      exact ⟨by omega, by omega⟩
theorem upM_ge (l : List UInt8) (k : Nat) (h : k ≤ l.length) : k ≤ upM l k ∧ upM l k ≤ l.length := by
  have := upF_ge l (l.length - k) k
  unfold upM
  exact ⟨this.1, by omega⟩
/-! ### The token at a place -/
def rawM (mode : Nat) : Bool := decide (1 ≤ mode) && decide (mode ≤ 4)
def rawT (l small : List UInt8) (mode i : Nat) : List UInt8 := Raw.textOf mode ((l.drop i).take (Raw.far small mode (l.drop i)))
def rawE (l small : List UInt8) (mode i : Nat) : Nat := i + Raw.far small mode (l.drop i)
theorem rawE_le {l small : List UInt8} {mode i : Nat} (h : i ≤ l.length) : i ≤ rawE l small mode i ∧ rawE l small mode i ≤ l.length := by
  have := (Raw.far_form small mode (l.drop i)).1
  rw [List.length_drop] at this
  unfold rawE
  exact ⟨by omega, by omega⟩
/-- What begins at j, where it ends, and whether there is more to look for there. -/
def mark (l : List UInt8) (cd : Bool) (j : Nat) : T × Nat × Bool :=
  if Tag.begB l j = true then (match Tag.readP l j with
    | none => (last, l.length, false)
    | some (t, m) => (ofTag t, m, false))
  else if Note.begB (l.drop j) = true then (ofText (Note.first (l.drop j) cd).1 (Note.first (l.drop j) cd).2.1, j + (Note.first (l.drop j) cd).2.2, decide ((Note.first (l.drop j) cd).1 = 0))
  else (ofText 1 (Ent.decode false ((l.drop j).take (upM l (j + 1) - j))), upM l (j + 1), false)
theorem mark_more {l : List UInt8} {cd : Bool} {j : Nat} (h : (mark l cd j).2.2 = true) : j + 2 ≤ (mark l cd j).2.1 ∧ (mark l cd j).2.1 ≤ l.length := by
  unfold mark at h ⊢
  by_cases h1 : Tag.begB l j = true
  · rw [if_pos h1] at h
    cases hr : Tag.readP l j with
    | none => rw [hr] at h; cases h
    | some x => rw [hr] at h; cases h
  rw [if_neg h1] at h ⊢
  by_cases h2 : Note.begB (l.drop j) = true
  · rw [if_pos h2]
    obtain ⟨f1, f2, _, _⟩ := Note.first_form cd h2
    have f3 := Note.beg_two h2
    rw [List.length_drop] at f1 f3
    exact ⟨by show j + 2 ≤ j + _; omega, by show j + _ ≤ _; omega⟩
  · rw [if_neg h2] at h
    cases h
/-- Where it goes on behind a mode's text. -/
def from_ (l small : List UInt8) (mode i : Nat) : Nat := if rawM mode = true then rawE l small mode i else i
theorem from_le {l small : List UInt8} {mode i : Nat} (h : i ≤ l.length) : i ≤ from_ l small mode i ∧ from_ l small mode i ≤ l.length := by
  unfold from_
  split
  · exact rawE_le h
  · exact ⟨Nat.le_refl _, h⟩
def nextF (l small : List UInt8) (mode : Nat) (cd : Bool) : Nat → Nat → T × Nat
  | 0, _ => (last, l.length)
  | f + 1, i =>
    if l.length ≤ i then (last, l.length)
    else if rawM mode = true ∧ rawT l small mode i ≠ [] then (ofText 1 (rawT l small mode i), rawE l small mode i)
    else if l.length ≤ from_ l small mode i then (last, from_ l small mode i)
    else if (mark l cd (from_ l small mode i)).2.2 = true then nextF l small mode cd f (mark l cd (from_ l small mode i)).2.1
    else ((mark l cd (from_ l small mode i)).1, (mark l cd (from_ l small mode i)).2.1)
theorem nextF_fuel {l small : List UInt8} {mode : Nat} {cd : Bool} : ∀ (f g i : Nat), l.length < f + i → l.length < g + i → nextF l small mode cd f i = nextF l small mode cd g i
  | 0, 0, i, _, _ => rfl
  | 0, g + 1, i, h, _ => by
    unfold nextF
    rw [if_pos (by omega)]
  | f + 1, 0, i, _, h => by
    unfold nextF
    rw [if_pos (by omega)]
  | f + 1, g + 1, i, hf, hg => by
    unfold nextF
    by_cases h0 : l.length ≤ i
    · rw [if_pos h0, if_pos h0]
    rw [if_neg h0, if_neg h0]
    have hj := from_le (small := small) (mode := mode) (show i ≤ l.length by omega)
    by_cases hm : (mark l cd (from_ l small mode i)).2.2 = true
    · have h2 := mark_more hm
      rw [if_pos hm, if_pos hm, nextF_fuel f g _ (by omega) (by omega)]
    · rw [if_neg hm, if_neg hm]
def next (l small : List UInt8) (mode : Nat) (cd : Bool) (i : Nat) : T × Nat := nextF l small mode cd (l.length + 1) i
theorem next_eq (l small : List UInt8) (mode : Nat) (cd : Bool) (i : Nat) : next l small mode cd i =
    if l.length ≤ i then (last, l.length)
    else if rawM mode = true ∧ rawT l small mode i ≠ [] then (ofText 1 (rawT l small mode i), rawE l small mode i)
    else if l.length ≤ from_ l small mode i then (last, from_ l small mode i)
    else if (mark l cd (from_ l small mode i)).2.2 = true then next l small mode cd (mark l cd (from_ l small mode i)).2.1
    else ((mark l cd (from_ l small mode i)).1, (mark l cd (from_ l small mode i)).2.1) := by
  show nextF l small mode cd (l.length + 1) i = _
  unfold nextF
  by_cases h0 : l.length ≤ i
  · rw [if_pos h0, if_pos h0]
  rw [if_neg h0, if_neg h0]
  have hj := from_le (small := small) (mode := mode) (show i ≤ l.length by omega)
  by_cases hm : (mark l cd (from_ l small mode i)).2.2 = true
  · have h2 := mark_more hm
    rw [if_pos hm, if_pos hm]
    unfold next
    rw [nextF_fuel l.length (l.length + 1) _ (by omega) (by omega)]
  · rw [if_neg hm, if_neg hm]
theorem next_end {l small : List UInt8} {mode : Nat} {cd : Bool} {i : Nat} (h : l.length ≤ i) : next l small mode cd i = (last, l.length) := by rw [next_eq, if_pos h]
theorem next_raw {l small : List UInt8} {mode : Nat} {cd : Bool} {i : Nat} (h : ¬ l.length ≤ i) (hm : rawM mode = true) (ht : rawT l small mode i ≠ []) : next l small mode cd i = (ofText 1 (rawT l small mode i), rawE l small mode i) := by rw [next_eq, if_neg h, if_pos ⟨hm, ht⟩]
theorem next_over {l small : List UInt8} {mode : Nat} {cd : Bool} {i : Nat} (h : ¬ l.length ≤ i) (hm : rawM mode = true) (ht : rawT l small mode i = []) (hj : l.length ≤ rawE l small mode i) : next l small mode cd i = (last, rawE l small mode i) := by
  have hf : from_ l small mode i = rawE l small mode i := by unfold from_; rw [if_pos hm]
  rw [next_eq, if_neg h, if_neg (fun x => x.2 ht), hf, if_pos hj]
/-- Where a mode's text, if any, is over, and the end is not there: j is that place. -/
def Here (l small : List UInt8) (mode i j : Nat) : Prop := ¬ l.length ≤ i ∧ (rawM mode = true → rawT l small mode i = []) ∧ from_ l small mode i = j ∧ j < l.length
theorem next_go {l small : List UInt8} {mode : Nat} {cd : Bool} {i j : Nat} (h : Here l small mode i j) (hm : (mark l cd j).2.2 = true) : next l small mode cd i = next l small mode cd (mark l cd j).2.1 := by
  obtain ⟨h1, h2, h3, h4⟩ := h
  rw [next_eq, if_neg h1, if_neg (fun x => x.2 (h2 x.1)), h3, if_neg (by omega), if_pos hm]
theorem next_stay {l small : List UInt8} {mode : Nat} {cd : Bool} {i j : Nat} (h : Here l small mode i j) (hm : (mark l cd j).2.2 = false) : next l small mode cd i = ((mark l cd j).1, (mark l cd j).2.1) := by
  obtain ⟨h1, h2, h3, h4⟩ := h
  rw [next_eq, if_neg h1, if_neg (fun x => x.2 (h2 x.1)), h3, if_neg (by omega), if_neg (by rw [hm]; decide)]
theorem mark_none {l : List UInt8} {cd : Bool} {j : Nat} (h1 : Tag.begB l j = true) (h : Tag.readP l j = none) : mark l cd j = (last, l.length, false) := by
  unfold mark
  rw [if_pos h1, h]
theorem mark_tag {l : List UInt8} {cd : Bool} {j m : Nat} {t : Tag.Tok} (h1 : Tag.begB l j = true) (h : Tag.readP l j = some (t, m)) : mark l cd j = (ofTag t, m, false) := by
  unfold mark
  rw [if_pos h1, h]
theorem mark_note {l : List UInt8} {cd : Bool} {j k n : Nat} {t : List UInt8} (h1 : Tag.begB l j = false) (h2 : Note.begB (l.drop j) = true) (h : Note.first (l.drop j) cd = (k, t, n)) : mark l cd j = (ofText k t, j + n, decide (k = 0)) := by
  unfold mark
  rw [if_neg (by rw [h1]; decide), if_pos h2, h]
theorem mark_text {l : List UInt8} {cd : Bool} {j e : Nat} (h1 : Tag.begB l j = false) (h2 : Note.begB (l.drop j) = false) (h : upM l (j + 1) = e) : mark l cd j = (ofText 1 (Ent.decode false ((l.drop j).take (e - j))), e, false) := by
  unfold mark
  rw [if_neg (by rw [h1]; decide), if_neg (by rw [h2]; decide), h]
theorem decode_empty {attr : Bool} {l : List UInt8} (h : Ent.decode attr l = []) : l = [] := by
  cases l with
  | nil => rfl
  | cons c r =>
    by_cases hc : c = 38
    · subst hc
      rw [Ent.decode_amp] at h
      exact absurd (List.append_eq_nil_iff.1 h).1 (Ent.refer_le attr r).2.2
    · rw [Ent.decode_other attr c r hc] at h
      cases h
/-- A mode's text is empty only where nothing stands. -/
theorem rawT_nil {l small : List UInt8} {mode i : Nat} (h : rawT l small mode i = []) : rawE l small mode i = i := by
  have hf := (Raw.far_form small mode (l.drop i)).1
  have ht : (l.drop i).take (Raw.far small mode (l.drop i)) = [] := by
    unfold rawT Raw.textOf at h
    by_cases h1 : mode = 1
    · rw [if_pos h1] at h
      exact decode_empty h
    · rwa [if_neg h1] at h
  have hl := congrArg List.length ht
  rw [List.length_take, List.length_nil] at hl
  unfold rawE
  omega
theorem readP_kind {l : List UInt8} {j m : Nat} {t : Tag.Tok} (h : Tag.readP l j = some (t, m)) : t.kind ≠ 0 := by
  unfold Tag.readP at h
  cases hr : Tag.runs l (Tag.nameEnd l j) [] with
  | none => rw [hr] at h; cases h
  | some x =>
    obtain ⟨ats, a, s⟩ := x
    rw [hr] at h
    injection h with h
    injection h with h _
    rw [← h]
    show (if Tag.isEnd l j = true then 3 else 2) ≠ 0
    split <;> decide
/-- Kind 0 says that there is more to look for. -/
theorem mark_zero (l : List UInt8) (cd : Bool) (j : Nat) : (mark l cd j).2.2 = decide ((mark l cd j).1.kind = 0) := by
  unfold mark
  by_cases h1 : Tag.begB l j = true
  · rw [if_pos h1]
    cases hr : Tag.readP l j with
    | none => rfl
    | some x =>
      obtain ⟨t, m⟩ := x
      show false = decide (t.kind = 0)
      rw [decide_eq_false (readP_kind hr)]
  rw [if_neg h1]
  by_cases h2 : Note.begB (l.drop j) = true
  · rw [if_pos h2]
    rfl
  · rw [if_neg h2]
    rfl
theorem here_raw {l small : List UInt8} {mode k : Nat} (hk : k < l.length) (ht : rawM mode = true → rawT l small mode k = []) : Here l small mode k k := by
  refine ⟨by omega, ht, ?_, hk⟩
  unfold from_
  by_cases hm : rawM mode = true
  · rw [if_pos hm, rawT_nil (ht hm)]
  · rw [if_neg hm]
end Go.Proofs.YtgldgdopabmefaaDoor.Lex
