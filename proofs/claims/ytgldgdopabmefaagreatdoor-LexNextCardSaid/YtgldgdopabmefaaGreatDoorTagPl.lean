/- Plain Lean: what package tag says, over lists of bytes and places in them. Nothing of a program stands here. Plain Lean: the rounds over a tag's attributes, one by one, as the reference makes them and as the program makes them. Nothing of a program stands here. -/
import Derived.Test.YtgldgdopabmefaaGreatDoorRefLower
import Derived.Test.YtgldgdopabmefaaGreatDoorRefHex
import Derived.Test.YtgldgdopabmefaaGreatDoorEnt
namespace Go.Proofs.YtgldgdopabmefaaGreatDoor.Tag
open Go.Lib
set_option maxRecDepth 100000
set_option linter.unusedVariables false

/-! ### Passing over -/
/-- The first place from i on at which a byte is not so. -/
def skip (p : UInt8 → Bool) (l : List UInt8) (i : Nat) : Nat := i + ((l.drop i).takeWhile p).length
theorem skip_go {p : UInt8 → Bool} {l : List UInt8} {i : Nat} {c : UInt8} (h : l[i]? = some c) (hp : p c = true) : skip p l i = skip p l (i + 1) := by
  have hi : i < l.length := (List.getElem?_eq_some_iff.1 h).1
  have hc : l[i] = c := (List.getElem?_eq_some_iff.1 h).2
  unfold skip
  rw [List.drop_eq_getElem_cons hi, List.takeWhile_cons, hc, hp, if_pos rfl, List.length_cons]
  omega
theorem skip_stop {p : UInt8 → Bool} {l : List UInt8} {i : Nat} {c : UInt8} (h : l[i]? = some c) (hp : p c = false) : skip p l i = i := by
  have hi : i < l.length := (List.getElem?_eq_some_iff.1 h).1
  have hc : l[i] = c := (List.getElem?_eq_some_iff.1 h).2
  unfold skip
  rw [List.drop_eq_getElem_cons hi, List.takeWhile_cons, hc, hp]
  simp
theorem skip_end {p : UInt8 → Bool} {l : List UInt8} {i : Nat} (h : l.length ≤ i) : skip p l i = i := by
  unfold skip
  rw [List.drop_of_length_le h]
  rfl
theorem skip_ge (p : UInt8 → Bool) (l : List UInt8) (i : Nat) : i ≤ skip p l i := by unfold skip; omega
theorem skip_le (p : UInt8 → Bool) (l : List UInt8) (i : Nat) (h : i ≤ l.length) : skip p l i ≤ l.length := by
  unfold skip
  have := (List.takeWhile_prefix p (l := l.drop i)).length_le
  rw [List.length_drop] at this
  omega
/-- What stands there is not so. -/
theorem skip_at {p : UInt8 → Bool} {l : List UInt8} {i : Nat} {c : UInt8} (h : l[skip p l i]? = some c) : p c = false := by
  unfold skip at h
  rw [← List.getElem?_drop] at h
  generalize l.drop i = m at h
  induction m with
  | nil => simp at h
  | cons a t ih =>
    rw [List.takeWhile_cons] at h
    cases hp : p a with
    | true =>
      rw [hp, if_pos rfl, List.length_cons, List.getElem?_cons_succ] at h
      exact ih h
    | false =>
      rw [hp] at h
      simp at h
      rw [← h]; exact hp
theorem tw_all {p : UInt8 → Bool} : ∀ (m : List UInt8) (k : Nat) (c : UInt8), k < (m.takeWhile p).length → m[k]? = some c → p c = true
  | [], k, c, h, _ => by simp at h
  | a :: t, k, c, h, hc => by
    rw [List.takeWhile_cons] at h
    cases hp : p a with
    | false => rw [hp] at h; simp at h
    | true =>
      rw [hp, if_pos rfl, List.length_cons] at h
      cases k with
      | zero =>
        simp at hc
        rw [← hc]; exact hp
      | succ k => exact tw_all t k c (by omega) (by simpa using hc)
/-- What stands ahead of it is so. -/
theorem skip_all {p : UInt8 → Bool} {l : List UInt8} {i j : Nat} {c : UInt8} (h1 : i ≤ j) (h2 : j < skip p l i) (h : l[j]? = some c) : p c = true := by
  unfold skip at h2
  obtain ⟨k, rfl⟩ : ∃ k, j = i + k := ⟨j - i, by omega⟩
  rw [← List.getElem?_drop] at h
  exact tw_all _ k c (by omega) h
def spB (c : UInt8) : Bool := spaceN c.toNat
def wdB (eq : Bool) (c : UInt8) : Bool := !spB c && (c.toNat != 47 && (c.toNat != 62 && (!eq || c.toNat != 61)))
def vlB (c : UInt8) : Bool := !spB c && c.toNat != 62
def qtB (q c : UInt8) : Bool := c != q
/-- From i up to k. -/
def cutP (l : List UInt8) (i k : Nat) : List UInt8 := (l.drop i).take (k - i)

/-! ### Begins -/
def begB (l : List UInt8) (i : Nat) : Bool :=
  decide (i + 1 < l.length) && (U8.B l i == 60) && (if U8.B l (i + 1) = 47 then decide (i + 2 < l.length) && letterN (U8.B l (i + 2)) else letterN (U8.B l (i + 1)))

/-! ### A value -/
/-- Behind a sign of equality: the value, the place behind it; false: the tag has no end. -/
def valP (l : List UInt8) (i0 : Nat) : List UInt8 × Nat × Bool :=
  let i := skip spB l i0
  match l[i]? with
  | none => ([], i, false)
  | some c =>
    if c.toNat = 62 then ([], i, true)
    else if c.toNat = 34 ∨ c.toNat = 39 then
      let k := skip (qtB c) l (i + 1)
      if k = l.length then ([], k, false) else (Ent.decode true (cutP l (i + 1) k), k + 1, true)
    else
      let k := skip vlB l i
      (Ent.decode true (cutP l i k), k, true)
theorem valP_le (l : List UInt8) (i : Nat) (h : i ≤ l.length) : i ≤ (valP l i).2.1 ∧ (valP l i).2.1 ≤ l.length := by
  have h1 := skip_ge spB l i
  have h2 := skip_le spB l i h
  unfold valP
  simp only
  split
  · exact ⟨h1, h2⟩
  · rename_i c hc
    have hlt : skip spB l i < l.length := (List.getElem?_eq_some_iff.1 hc).1
    split
    · exact ⟨h1, h2⟩
    · split
      · have h3 := skip_ge (qtB c) l (skip spB l i + 1)
        have h4 := skip_le (qtB c) l (skip spB l i + 1) (by omega)
        split
        · exact ⟨by show i ≤ skip (qtB c) l (skip spB l i + 1); omega, h4⟩
        · exact ⟨by show i ≤ skip (qtB c) l (skip spB l i + 1) + 1; omega, by show skip (qtB c) l (skip spB l i + 1) + 1 ≤ _; omega⟩
      · have h3 := skip_ge vlB l (skip spB l i)
        have h4 := skip_le vlB l (skip spB l i) h2
        exact ⟨by show i ≤ skip vlB l (skip spB l i); omega, h4⟩

/-! ### The attributes -/
abbrev At := List UInt8 × List UInt8
/-- What a round comes to: no end; the end, at that place, and whether it closes itself; or on from there. -/
inductive Next where
  | no
  | ends (at_ : Nat) (self : Bool)
  | on (at_ : Nat) (name val : List UInt8)
  | past (at_ : Nat)
def round (l : List UInt8) (i : Nat) : Next :=
  let a := skip spB l i
  match l[a]? with
  | none => .no
  | some c =>
    if c.toNat = 62 then .ends a false
    else if c.toNat = 47 then
      match l[a + 1]? with
      | some d => if d.toNat = 62 then .ends (a + 1) true else .past (a + 1)
      | none => .past (a + 1)
    else
      let e := skip (wdB true) l (a + 1)
      let n := lowL (cutP l a e)
      let b := skip spB l e
      match l[b]? with
      | some d => if d.toNat = 61 then (if (valP l (b + 1)).2.2 = true then .on (valP l (b + 1)).2.1 n (valP l (b + 1)).1 else .no) else .on b n []
      | none => .on b n []
/-- An attribute whose name is there already is left out. -/
def addA (atts : List At) (n v : List UInt8) : List At := if atts.any (fun a => a.1 == n) then atts else atts ++ [(n, v)]
def run (l : List UInt8) : Nat → Nat → List At → Option (List At × Nat × Bool)
  | 0, _, _ => none
  | f + 1, i, atts =>
    match round l i with
    | .no => none
    | .ends a s => some (atts, a, s)
    | .past a => run l f a atts
    | .on a n v => run l f a (addA atts n v)
theorem round_grows (l : List UInt8) (i : Nat) (hi : i ≤ l.length) : (∀ a, round l i = .past a → i < a ∧ a ≤ l.length) ∧ (∀ a n v, round l i = .on a n v → i < a ∧ a ≤ l.length) ∧ (∀ a s, round l i = .ends a s → i ≤ a ∧ a < l.length) := by
  have h1 := skip_ge spB l i
  unfold round
  simp only
  split
  · exact ⟨fun a h => (by cases h), fun a n v h => (by cases h), fun a s h => (by cases h)⟩
  · rename_i c hc
    have hlt : skip spB l i < l.length := (List.getElem?_eq_some_iff.1 hc).1
    split
    · exact ⟨fun a h => (by cases h), fun a n v h => (by cases h), fun a s h => by cases h; exact ⟨h1, hlt⟩⟩
    · split
      · split
        · rename_i d hd
          have hlt2 : skip spB l i + 1 < l.length := (List.getElem?_eq_some_iff.1 hd).1
          split
          · exact ⟨fun a h => (by cases h), fun a n v h => (by cases h), fun a s h => by cases h; exact ⟨by omega, hlt2⟩⟩
          · exact ⟨fun a h => by cases h; exact ⟨by omega, by omega⟩, fun a n v h => (by cases h), fun a s h => (by cases h)⟩
        · exact ⟨fun a h => by cases h; exact ⟨by omega, by omega⟩, fun a n v h => (by cases h), fun a s h => (by cases h)⟩
      · have h2 := skip_ge (wdB true) l (skip spB l i + 1)
        have h3 := skip_le (wdB true) l (skip spB l i + 1) (by omega)
        have h4 := skip_ge spB l (skip (wdB true) l (skip spB l i + 1))
        have h5 := skip_le spB l (skip (wdB true) l (skip spB l i + 1)) h3
        split
        · rename_i d hd
          have hlt2 := (List.getElem?_eq_some_iff.1 hd).1
          split
          · have h6 := valP_le l (skip spB l (skip (wdB true) l (skip spB l i + 1)) + 1) (by omega)
            split
            · exact ⟨fun a h => (by cases h), fun a n v h => by cases h; exact ⟨by omega, h6.2⟩, fun a s h => (by cases h)⟩
            · exact ⟨fun a h => (by cases h), fun a n v h => (by cases h), fun a s h => (by cases h)⟩
          · exact ⟨fun a h => (by cases h), fun a n v h => by cases h; exact ⟨by omega, h5⟩, fun a s h => (by cases h)⟩
        · exact ⟨fun a h => (by cases h), fun a n v h => by cases h; exact ⟨by omega, h5⟩, fun a s h => (by cases h)⟩
/-- So much fuel is enough. -/
theorem run_more (l : List UInt8) : ∀ (f g i : Nat) (atts : List At), i ≤ l.length → l.length + 1 - i ≤ f → l.length + 1 - i ≤ g → run l f i atts = run l g i atts
  | 0, g, i, atts, hi, hf, hg => by omega
  | f + 1, 0, i, atts, hi, hf, hg => by omega
  | f + 1, g + 1, i, atts, hi, hf, hg => by
    obtain ⟨h1, h2, _⟩ := round_grows l i hi
    unfold run
    cases hr : round l i with
    | no => rfl
    | ends a s => rfl
    | past a =>
      have := h1 a hr
      exact run_more l f g a atts (by omega) (by omega) (by omega)
    | on a n v =>
      have := h2 a n v hr
      exact run_more l f g a _ (by omega) (by omega) (by omega)
def runs (l : List UInt8) (i : Nat) (atts : List At) : Option (List At × Nat × Bool) := run l (l.length + 1) i atts
theorem runs_no {l : List UInt8} {i : Nat} (atts : List At) (h : round l i = .no) : runs l i atts = none := by unfold runs run; rw [h]
theorem runs_ends {l : List UInt8} {i a : Nat} {s : Bool} (atts : List At) (h : round l i = .ends a s) : runs l i atts = some (atts, a, s) := by unfold runs run; rw [h]
theorem runs_past {l : List UInt8} {i a : Nat} (atts : List At) (hi : i ≤ l.length) (h : round l i = .past a) : runs l i atts = runs l a atts := by
  have hg := (round_grows l i hi).1 a h
  have e : runs l i atts = run l l.length a atts := by unfold runs; conv => lhs; unfold run; rw [h]
  rw [e]
  exact run_more l _ _ a atts hg.2 (by omega) (by omega)
theorem runs_on {l : List UInt8} {i a : Nat} {n v : List UInt8} (atts : List At) (hi : i ≤ l.length) (h : round l i = .on a n v) : runs l i atts = runs l a (addA atts n v) := by
  have hg := (round_grows l i hi).2.1 a n v h
  have e : runs l i atts = run l l.length a (addA atts n v) := by unfold runs; conv => lhs; unfold run; rw [h]
  rw [e]
  exact run_more l _ _ a _ hg.2 (by omega) (by omega)

/-! ### Read -/
/-- Kind, name, attributes, whether it closes itself; the place behind it. -/
structure Tok where
  kind : Nat
  name : List UInt8
  atts : List At
  self : Bool
def fromP (l : List UInt8) (i : Nat) : Nat := if U8.B l (i + 1) = 47 then i + 2 else i + 1
def isEnd (l : List UInt8) (i : Nat) : Bool := U8.B l (i + 1) == 47
def nameEnd (l : List UInt8) (i : Nat) : Nat := skip (wdB false) l (fromP l i)
/-- A tag begins at i: what it is; none: it has no end. -/
def readP (l : List UInt8) (i : Nat) : Option (Tok × Nat) :=
  match runs l (nameEnd l i) [] with
  | none => none
  | some (atts, a, s) => some ({ kind := if isEnd l i = true then 3 else 2, name := lowL (cutP l (fromP l i) (nameEnd l i)), atts := if isEnd l i = true then [] else atts, self := !isEnd l i && s }, a + 1)
end Go.Proofs.YtgldgdopabmefaaGreatDoor.Tag
namespace Go.Proofs.YtgldgdopabmefaaGreatDoor.Tag
open Go.Lib
set_option maxRecDepth 100000
set_option linter.unusedVariables false

/-! ### One round, way by way -/
theorem runs_end {l : List UInt8} {k a : Nat} (atts : List At) (ha : skip spB l k = a) (h : l[a]? = none) : runs l k atts = none := by
  refine runs_no atts ?_
  unfold round
  simp only [ha, h]
theorem runs_full {l : List UInt8} {k : Nat} (atts : List At) (h : l.length ≤ k) : runs l k atts = none :=
  runs_end atts (skip_end h) (List.getElem?_eq_none h)
theorem runs_gt {l : List UInt8} {k a : Nat} {c : UInt8} (atts : List At) (ha : skip spB l k = a) (h : l[a]? = some c) (hc : c.toNat = 62) : runs l k atts = some (atts, a, false) := by
  refine runs_ends atts ?_
  unfold round
  simp only [ha, h, hc, if_true]
theorem runs_self {l : List UInt8} {k a : Nat} {c d : UInt8} (atts : List At) (ha : skip spB l k = a) (h : l[a]? = some c) (hc : c.toNat = 47) (h2 : l[a + 1]? = some d) (hd : d.toNat = 62) : runs l k atts = some (atts, a + 1, true) := by
  refine runs_ends atts ?_
  unfold round
  have n62 : ¬ c.toNat = 62 := by omega
  simp only [ha, h]
  rw [if_neg n62, if_pos hc]
  simp only [h2]
  rw [if_pos hd]
theorem runs_slash {l : List UInt8} {k a : Nat} {c : UInt8} (atts : List At) (hk : k ≤ l.length) (ha : skip spB l k = a) (h : l[a]? = some c) (hc : c.toNat = 47) (h2 : ∀ d, l[a + 1]? = some d → d.toNat ≠ 62) : runs l k atts = runs l (a + 1) atts := by
  refine runs_past atts hk ?_
  unfold round
  have n62 : ¬ c.toNat = 62 := by omega
  simp only [ha, h]
  rw [if_neg n62, if_pos hc]
  cases hd : l[a + 1]? with
  | none => rfl
  | some d => simp only [if_neg (h2 d hd)]
section
variable {l : List UInt8} {k a e b : Nat} {c : UInt8} (atts : List At) (hk : k ≤ l.length) (ha : skip spB l k = a) (h : l[a]? = some c) (n62 : ¬ c.toNat = 62) (n47 : ¬ c.toNat = 47) (he : skip (wdB true) l (a + 1) = e) (hb : skip spB l e = b)
include hk ha h n62 n47 he hb
theorem runs_bare (hd : ∀ d, l[b]? = some d → d.toNat ≠ 61) : runs l k atts = runs l b (addA atts (lowL (cutP l a e)) []) := by
  refine runs_on atts hk ?_
  unfold round
  simp only [ha, h, if_neg n62, if_neg n47, he, hb]
  cases hd2 : l[b]? with
  | none => rfl
  | some d => simp only [if_neg (hd d hd2)]
theorem runs_val {d : UInt8} {v : List UInt8} {j : Nat} (hd : l[b]? = some d) (h61 : d.toNat = 61) (hv : valP l (b + 1) = (v, j, true)) : runs l k atts = runs l j (addA atts (lowL (cutP l a e)) v) := by
  refine runs_on atts hk ?_
  unfold round
  simp only [ha, h, if_neg n62, if_neg n47, he, hb, hd, h61, hv, if_true]
omit hk in
theorem runs_noval {d : UInt8} {v : List UInt8} {j : Nat} (hd : l[b]? = some d) (h61 : d.toNat = 61) (hv : valP l (b + 1) = (v, j, false)) : runs l k atts = none := by
  refine runs_no atts ?_
  unfold round
  simp only [ha, h, if_neg n62, if_neg n47, he, hb, hd, h61, hv, if_true]
  simp
end

/-! ### As the program makes them -/
theorem decode_nil : Ent.decode true [] = [] := by decide +kernel
def quoteB (c : UInt8) : Bool := c.toNat == 34 || c.toNat == 39
/-- A value as it is written, at a place behind blanks, and the place behind it. -/
def rawQ (l : List UInt8) (i : Nat) : List UInt8 × Nat :=
  match l[i]? with
  | some c => if quoteB c = true then (cutP l (i + 1) (skip (qtB c) l (i + 1)), if skip (qtB c) l (i + 1) < l.length then skip (qtB c) l (i + 1) + 1 else skip (qtB c) l (i + 1)) else (cutP l i (skip vlB l i), skip vlB l i)
  | none => (cutP l i (skip vlB l i), skip vlB l i)
/-- An attribute at a place, as the program reads it: its name, its value, the place behind it. -/
def attrP (l : List UInt8) (a : Nat) : List UInt8 × List UInt8 × Nat :=
  let e := skip (wdB true) l (a + 1)
  let b := skip spB l e
  match l[b]? with
  | some d => if d.toNat = 61 then (lowL (cutP l a e), Ent.decode true (rawQ l (skip spB l (b + 1))).1, (rawQ l (skip spB l (b + 1))).2) else (lowL (cutP l a e), [], b)
  | none => (lowL (cutP l a e), [], b)
theorem cut_self (l : List UInt8) (i : Nat) : cutP l i i = [] := by unfold cutP; simp
theorem raw_le (l : List UInt8) (i : Nat) (h : i ≤ l.length) : i ≤ (rawQ l i).2 ∧ (rawQ l i).2 ≤ l.length ∧ (rawQ l i).1.length ≤ l.length := by
  unfold rawQ
  have h1 := skip_ge vlB l i
  have h2 := skip_le vlB l i h
  split
  · rename_i c hc
    have hlt : i < l.length := (List.getElem?_eq_some_iff.1 hc).1
    have h3 := skip_ge (qtB c) l (i + 1)
    have h4 := skip_le (qtB c) l (i + 1) (by omega)
    split
    · refine ⟨?_, ?_, ?_⟩
      · show i ≤ if skip (qtB c) l (i + 1) < l.length then skip (qtB c) l (i + 1) + 1 else skip (qtB c) l (i + 1)
        split <;> omega
      · show (if skip (qtB c) l (i + 1) < l.length then skip (qtB c) l (i + 1) + 1 else skip (qtB c) l (i + 1)) ≤ _
        split <;> omega
      · show (cutP l _ _).length ≤ _
        unfold cutP; rw [List.length_take, List.length_drop]; omega
    · exact ⟨h1, h2, by show (cutP l _ _).length ≤ _; unfold cutP; rw [List.length_take, List.length_drop]; omega⟩
  · exact ⟨h1, h2, by show (cutP l _ _).length ≤ _; unfold cutP; rw [List.length_take, List.length_drop]; omega⟩
theorem attr_le (l : List UInt8) (a : Nat) (h : a < l.length) : a < (attrP l a).2.2 ∧ (attrP l a).2.2 ≤ l.length := by
  have h1 := skip_ge (wdB true) l (a + 1)
  have h2 := skip_le (wdB true) l (a + 1) (by omega)
  have h3 := skip_ge spB l (skip (wdB true) l (a + 1))
  have h4 := skip_le spB l (skip (wdB true) l (a + 1)) h2
  unfold attrP
  simp only
  split
  · rename_i d hd
    have hlt := (List.getElem?_eq_some_iff.1 hd).1
    split
    · have h5 := skip_ge spB l (skip spB l (skip (wdB true) l (a + 1)) + 1)
      have h6 := skip_le spB l (skip spB l (skip (wdB true) l (a + 1)) + 1) (by omega)
      have h7 := raw_le l _ h6
      exact ⟨by show a < (rawQ l _).2; omega, h7.2.1⟩
    · exact ⟨by show a < skip spB l _; omega, h4⟩
  · exact ⟨by show a < skip spB l _; omega, h4⟩
theorem valP_blank {l : List UInt8} {i a : Nat} (h : skip spB l i = a) : valP l i = match l[a]? with
  | none => ([], a, false)
  | some c =>
    if c.toNat = 62 then ([], a, true)
    else if c.toNat = 34 ∨ c.toNat = 39 then
      (if skip (qtB c) l (a + 1) = l.length then ([], skip (qtB c) l (a + 1), false) else (Ent.decode true (cutP l (a + 1) (skip (qtB c) l (a + 1))), skip (qtB c) l (a + 1) + 1, true))
    else (Ent.decode true (cutP l a (skip vlB l a)), skip vlB l a, true) := by
  subst h
  rfl
/-- The program's round and the document's come to the same. -/
theorem runs_attr {l : List UInt8} {k a : Nat} {c : UInt8} (atts : List At) (hk : k ≤ l.length) (ha : skip spB l k = a) (h : l[a]? = some c) (n62 : ¬ c.toNat = 62) (n47 : ¬ c.toNat = 47) :
    runs l k atts = runs l (attrP l a).2.2 (addA atts (attrP l a).1 (attrP l a).2.1) := by
  obtain ⟨e, he⟩ : ∃ e, skip (wdB true) l (a + 1) = e := ⟨_, rfl⟩
  obtain ⟨b, hb⟩ : ∃ b, skip spB l e = b := ⟨_, rfl⟩
  have hlt : a < l.length := (List.getElem?_eq_some_iff.1 h).1
  have e2 := skip_le (wdB true) l (a + 1) (by omega)
  rw [he] at e2
  have b2 := skip_le spB l e e2
  rw [hb] at b2
  cases hd : l[b]? with
  | none =>
    rw [runs_bare atts hk ha h n62 n47 he hb (fun d h2 => by rw [hd] at h2; cases h2)]
    unfold attrP
    simp only [he, hb, hd]
  | some d =>
    by_cases h61 : d.toNat = 61
    · have blt : b < l.length := (List.getElem?_eq_some_iff.1 hd).1
      obtain ⟨q, hq⟩ : ∃ q, skip spB l (b + 1) = q := ⟨_, rfl⟩
      have q2 := skip_le spB l (b + 1) (by omega)
      rw [hq] at q2
      have hA : attrP l a = (lowL (cutP l a e), Ent.decode true (rawQ l q).1, (rawQ l q).2) := by unfold attrP; simp only [he, hb, hd, h61, if_true, hq]
      rw [hA]
      have hV := valP_blank hq
      cases hf : l[q]? with
      | none =>
        simp only [hf] at hV
        have hql : q = l.length := by have := List.getElem?_eq_none_iff.1 hf; omega
        rw [runs_noval atts ha h n62 n47 he hb hd h61 hV]
        refine (runs_full _ ?_).symm
        have := raw_le l q q2
        show l.length ≤ (rawQ l q).2
        omega
      | some f =>
        simp only [hf] at hV
        by_cases h62 : f.toNat = 62
        · rw [if_pos h62] at hV
          have hs : skip vlB l q = q := skip_stop hf (by unfold vlB; rw [h62]; simp)
          have hR : rawQ l q = ([], q) := by
            unfold rawQ
            have hqb : quoteB f = false := by unfold quoteB; rw [h62]; rfl
            simp only [hf, hqb, hs, cut_self]
            rfl
          rw [runs_val atts hk ha h n62 n47 he hb hd h61 hV, hR, decode_nil]
        · rw [if_neg h62] at hV
          by_cases hqu : f.toNat = 34 ∨ f.toNat = 39
          · rw [if_pos hqu] at hV
            have hqb : quoteB f = true := by unfold quoteB; simpa using hqu
            have s2 := skip_le (qtB f) l (q + 1) (by have := (List.getElem?_eq_some_iff.1 hf).1; omega)
            by_cases hend : skip (qtB f) l (q + 1) = l.length
            · rw [if_pos hend] at hV
              rw [runs_noval atts ha h n62 n47 he hb hd h61 hV]
              refine (runs_full _ ?_).symm
              unfold rawQ
              simp only [hf, hqb, if_true]
              rw [if_neg (by omega)]
              omega
            · rw [if_neg hend] at hV
              have hR : rawQ l q = (cutP l (q + 1) (skip (qtB f) l (q + 1)), skip (qtB f) l (q + 1) + 1) := by
                unfold rawQ
                simp only [hf, hqb, if_true]
                rw [if_pos (by omega)]
              rw [runs_val atts hk ha h n62 n47 he hb hd h61 hV, hR]
          · rw [if_neg hqu] at hV
            have hqb : quoteB f = false := by unfold quoteB; simpa using hqu
            have hR : rawQ l q = (cutP l q (skip vlB l q), skip vlB l q) := by
              unfold rawQ
              simp only [hf, hqb]
              rfl
            rw [runs_val atts hk ha h n62 n47 he hb hd h61 hV, hR]
    · rw [runs_bare atts hk ha h n62 n47 he hb (fun f h2 => by rw [hd] at h2; cases h2; exact h61)]
      unfold attrP
      simp only [he, hb, hd, if_neg h61]
/-- Where a tag begins, its name follows. -/
theorem beg_lt {l : List UInt8} {i : Nat} (h : begB l i = true) : i + 1 < l.length ∧ U8.B l i = 60 ∧ fromP l i < l.length ∧ letterN (U8.B l (fromP l i)) = true := by
  unfold begB at h
  simp only [Bool.and_eq_true, decide_eq_true_eq, beq_iff_eq] at h
  obtain ⟨⟨h1, h2⟩, h3⟩ := h
  unfold fromP
  by_cases h47 : U8.B l (i + 1) = 47
  · rw [if_pos h47] at h3 ⊢
    simp only [Bool.and_eq_true, decide_eq_true_eq] at h3
    exact ⟨h1, h2, h3.1, h3.2⟩
  · rw [if_neg h47] at h3 ⊢
    exact ⟨h1, h2, h1, h3⟩
end Go.Proofs.YtgldgdopabmefaaGreatDoor.Tag
