/- Plain Lean: what package note says, over lists of bytes: what stands up to a sign, where a comment ends, what begins and is no tag. Nothing of a program stands here. -/
import Derived.Test.YtgldgdopabmefaaGreatDoorRefLower
import Derived.Test.YtgldgdopabmefaaGreatDoorRefHex
import Derived.Lib.IndexMore
namespace Go.Proofs.YtgldgdopabmefaaGreatDoor.Note
open Go.Lib
set_option maxRecDepth 100000
set_option linter.unusedVariables false

/-! ### Up to a sign -/
def upTo (r sign : List UInt8) : List UInt8 × Nat := if 0 ≤ index r sign then (r.take (index r sign).toNat, (index r sign).toNat + sign.length) else (r, r.length)
theorem cut_upTo (r sign : List UInt8) : (cut r sign).1 = (upTo r sign).1 ∧ (cut r sign).2.1 = r.drop (upTo r sign).2 := by
  unfold cut upTo
  by_cases h : 0 ≤ index r sign
  · constructor <;> simp [h]
  · constructor <;> simp [h]
theorem upTo_hit {r sign : List UInt8} {m : Nat} (hm : m ≤ r.length) (h : hasPrefix (r.drop m) sign = true) (hn : ∀ j, j < m → hasPrefix (r.drop j) sign = false) : upTo r sign = (r.take m, m + sign.length) := by
  have hi : index r sign = m := index_first hm h hn
  unfold upTo
  rw [hi, if_pos (by omega), Int.toNat_natCast]
theorem upTo_miss {r sign : List UInt8} (hn : ∀ j, j ≤ r.length → hasPrefix (r.drop j) sign = false) : upTo r sign = (r, r.length) := by
  have hi : index r sign = -1 := index_none hn
  unfold upTo
  rw [hi, if_neg (by decide)]
/-- The first place, or none. -/
theorem first_or_none (p : Nat → Bool) : ∀ n : Nat, (∃ m, m < n ∧ p m = true ∧ ∀ j, j < m → p j = false) ∨ ∀ j, j < n → p j = false
  | 0 => .inr fun j h => absurd h (Nat.not_lt_zero j)
  | n + 1 => by
    rcases first_or_none p n with ⟨m, h1, h2, h3⟩ | h
    · exact .inl ⟨m, by omega, h2, h3⟩
    · cases hp : p n with
      | true => exact .inl ⟨n, by omega, hp, h⟩
      | false =>
        refine .inr fun j hj => ?_
        by_cases he : j = n
        · rw [he]; exact hp
        · exact h j (by omega)
theorem pre_room {r p : List UInt8} {m : Nat} (h : hasPrefix (r.drop m) p = true) (hp : p ≠ []) : m + p.length ≤ r.length := by
  have := (List.isPrefixOf_iff_prefix.1 h).length_le
  rw [List.length_drop] at this
  have h2 : 0 < p.length := by
    cases p with
    | nil => exact absurd rfl hp
    | cons a t => simp
  omega
theorem pre_end {r p : List UInt8} {m : Nat} (h : r.length ≤ m) (hp : p ≠ []) : hasPrefix (r.drop m) p = false := by
  cases hc : hasPrefix (r.drop m) p with
  | false => rfl
  | true =>
    have h1 := pre_room hc hp
    have h2 : 0 < p.length := by
      cases p with
      | nil => exact absurd rfl hp
      | cons a t => simp
    omega
theorem upTo_none {r sign : List UInt8} (hs : sign ≠ []) (hn : ∀ j, j < r.length → hasPrefix (r.drop j) sign = false) : upTo r sign = (r, r.length) :=
  upTo_miss fun j hj => by
    by_cases h : j < r.length
    · exact hn j h
    · exact pre_end (by omega) hs
/-- Where it ends, and what it is. -/
theorem upTo_form (r sign : List UInt8) (hs : sign ≠ []) : ∃ m, (upTo r sign).1 = r.take m ∧ m ≤ (upTo r sign).2 ∧ (upTo r sign).2 ≤ r.length := by
  rcases first_or_none (fun j => hasPrefix (r.drop j) sign) r.length with ⟨m, h1, h2, h3⟩ | h
  · have hr := pre_room h2 hs
    rw [upTo_hit (by omega) h2 h3]
    exact ⟨m, rfl, by simp, hr⟩
  · rw [upTo_none hs h]
    exact ⟨r.length, by simp, Nat.le_refl _, Nat.le_refl _⟩

/-! ### Comments -/
/-- How long an end of a comment stands at k; 0: none. -/
def endAt (r : List UInt8) (k : Nat) : Nat := if hasPrefix (r.drop k) [45, 45, 62] = true then 3 else if hasPrefix (r.drop k) [45, 45, 33, 62] = true then 4 else 0
def bare (r : List UInt8) : List UInt8 :=
  if hasSuffix r [45, 45, 33] = true then r.take (r.length - 3) else if hasSuffix r [45, 45] = true then r.take (r.length - 2) else if hasSuffix r [45] = true then r.take (r.length - 1) else r
def body (r : List UInt8) : List UInt8 × Nat :=
  match (List.range r.length).find? (fun k => decide (endAt r k ≠ 0)) with
  | some k => (r.take k, k + endAt r k)
  | none => (bare r, r.length)
def comment (r : List UInt8) : List UInt8 × Nat := if hasPrefix r [62] = true then ([], 1) else if hasPrefix r [45, 62] = true then ([], 2) else body r
theorem body_hit {r : List UInt8} {k n : Nat} (h : endAt r k = n) (hn : n ≠ 0) (hl : k < r.length) (hb : ∀ j, j < k → endAt r j = 0) : body r = (r.take k, k + n) := by
  have : (List.range r.length).find? (fun k => decide (endAt r k ≠ 0)) = some k := by
    rw [List.find?_range_eq_some]
    exact ⟨decide_eq_true (by rw [h]; exact hn), by simpa using hl, fun j hj => by simp [hb j hj]⟩
  unfold body
  rw [this]
  simp only [h]
theorem body_miss {r : List UInt8} (hb : ∀ j, j < r.length → endAt r j = 0) : body r = (bare r, r.length) := by
  have : (List.range r.length).find? (fun k => decide (endAt r k ≠ 0)) = none := by
    rw [List.find?_range_eq_none]
    exact fun j hj => by simp [hb j hj]
  unfold body
  rw [this]
theorem suf_len {r p : List UInt8} (h : hasSuffix r p = true) : p.length ≤ r.length := (List.isSuffixOf_iff_suffix.1 h).length_le
theorem bare_form (r : List UInt8) : ∃ m, bare r = r.take m ∧ m ≤ r.length := by
  unfold bare
  split
  · exact ⟨_, rfl, by omega⟩
  · split
    · exact ⟨_, rfl, by omega⟩
    · split
      · exact ⟨_, rfl, by omega⟩
      · exact ⟨r.length, by simp, Nat.le_refl _⟩
theorem endAt_cases (r : List UInt8) (k : Nat) : (endAt r k = 3 ∧ hasPrefix (r.drop k) [45, 45, 62] = true) ∨ (endAt r k = 4 ∧ hasPrefix (r.drop k) [45, 45, 62] = false ∧ hasPrefix (r.drop k) [45, 45, 33, 62] = true) ∨ (endAt r k = 0 ∧ hasPrefix (r.drop k) [45, 45, 62] = false ∧ hasPrefix (r.drop k) [45, 45, 33, 62] = false) := by
  unfold endAt
  cases h1 : hasPrefix (r.drop k) [45, 45, 62] with
  | true => exact .inl ⟨rfl, rfl⟩
  | false =>
    cases h2 : hasPrefix (r.drop k) [45, 45, 33, 62] with
    | true => exact .inr (.inl ⟨rfl, rfl, rfl⟩)
    | false => exact .inr (.inr ⟨rfl, rfl, rfl⟩)
theorem endAt_room {r : List UInt8} {k : Nat} (h : endAt r k ≠ 0) : k + endAt r k ≤ r.length := by
  rcases endAt_cases r k with ⟨e, h1⟩ | ⟨e, _, h1⟩ | ⟨e, _⟩
  · rw [e]; exact pre_room h1 (by decide)
  · rw [e]; exact pre_room h1 (by decide)
  · exact absurd e h
theorem body_form (r : List UInt8) : ∃ m, (body r).1 = r.take m ∧ m ≤ (body r).2 ∧ (body r).2 ≤ r.length := by
  rcases first_or_none (fun j => decide (endAt r j ≠ 0)) r.length with ⟨m, h1, h2, h3⟩ | h
  · have h2' : endAt r m ≠ 0 := of_decide_eq_true h2
    rw [body_hit rfl h2' h1 (fun j hj => by simpa using h3 j hj)]
    exact ⟨m, rfl, by simp, endAt_room h2'⟩
  · rw [body_miss (fun j hj => by simpa using h j hj)]
    obtain ⟨m, h1, h2⟩ := bare_form r
    exact ⟨m, h1, h2, Nat.le_refl _⟩
theorem comment_form (r : List UInt8) : ∃ m, (comment r).1 = r.take m ∧ m ≤ (comment r).2 ∧ (comment r).2 ≤ r.length := by
  unfold comment
  by_cases h1 : hasPrefix r [62] = true
  · rw [if_pos h1]
    have := pre_room (m := 0) h1 (by decide)
    exact ⟨0, by simp, by simp, by simpa using this⟩
  rw [if_neg h1]
  by_cases h2 : hasPrefix r [45, 62] = true
  · rw [if_pos h2]
    have := pre_room (m := 0) h2 (by decide)
    exact ⟨0, by simp, by simp, by simpa using this⟩
  rw [if_neg h2]
  exact body_form r

/-! ### Prefixes, byte by byte -/
theorem pre_one (r : List UInt8) (k : Nat) (p : UInt8) (q : List UInt8) : hasPrefix (r.drop k) (p :: q) = (decide (r[k]? = some p) && hasPrefix (r.drop (k + 1)) q) := by
  have h : r[k]? = (r.drop k)[0]? := by rw [List.getElem?_drop, Nat.add_zero]
  have h2 : r.drop (k + 1) = (r.drop k).drop 1 := by rw [List.drop_drop]
  rw [h, h2]
  cases r.drop k with
  | nil => rfl
  | cons a t =>
    unfold hasPrefix
    simp only [List.isPrefixOf, List.getElem?_cons_zero, List.drop_succ_cons, List.drop_zero]
    congr 1
    rw [Bool.eq_iff_iff]
    simp
    exact eq_comm
theorem pre_nil (r : List UInt8) : hasPrefix r [] = true := by cases r <;> rfl
theorem pre_iff3 (r : List UInt8) (k : Nat) : hasPrefix (r.drop k) [45, 45, 62] = true ↔ r[k]? = some 45 ∧ r[k + 1]? = some 45 ∧ r[k + 2]? = some 62 := by
  simp [pre_one, pre_nil, Nat.add_assoc]
theorem pre_iff4 (r : List UInt8) (k : Nat) : hasPrefix (r.drop k) [45, 45, 33, 62] = true ↔ r[k]? = some 45 ∧ r[k + 1]? = some 45 ∧ r[k + 2]? = some 33 ∧ r[k + 3]? = some 62 := by
  simp [pre_one, pre_nil, Nat.add_assoc]
theorem suf_snoc (r q : List UInt8) (p : UInt8) (k : Nat) (hk : k < r.length) : hasSuffix (r.take (k + 1)) (q ++ [p]) = (decide (r[k]? = some p) && hasSuffix (r.take k) q) := by
  rw [Bool.eq_iff_iff]
  unfold hasSuffix
  rw [Bool.and_eq_true, List.isSuffixOf_iff_suffix, List.isSuffixOf_iff_suffix, decide_eq_true_iff, List.take_add_one, List.getElem?_eq_getElem hk]
  constructor
  · rintro ⟨t, ht⟩
    rw [← List.append_assoc, Option.toList_some] at ht
    obtain ⟨h1, h2⟩ := List.append_inj' ht rfl
    exact ⟨by rw [List.cons.inj h2 |>.1], t, h1⟩
  · rintro ⟨h1, t, h2⟩
    exact ⟨t, by rw [← List.append_assoc, h2, Option.some.inj h1]; rfl⟩
theorem suf_nil (r : List UInt8) : hasSuffix r [] = true := by unfold hasSuffix; rw [List.isSuffixOf_iff_suffix]; exact List.nil_suffix
theorem suf_zero (r q : List UInt8) (p : UInt8) : hasSuffix (r.take 0) (q ++ [p]) = false := by
  cases h : hasSuffix (r.take 0) (q ++ [p]) with
  | false => rfl
  | true => have := suf_len h; simp at this
theorem suf_iff2 (r : List UInt8) (k : Nat) (hk : k ≤ r.length) : hasSuffix (r.take k) [45, 45] = true ↔ 2 ≤ k ∧ r[k - 2]? = some 45 ∧ r[k - 1]? = some 45 := by
  match k, hk with
  | 0, _ => rw [show ([45, 45] : List UInt8) = [45] ++ [45] from rfl, suf_zero]; simp
  | 1, h => rw [show ([45, 45] : List UInt8) = [45] ++ [45] from rfl, suf_snoc r _ _ 0 (by omega), show ([45] : List UInt8) = [] ++ [45] from rfl, suf_zero]; simp
  | k + 2, h =>
    rw [show ([45, 45] : List UInt8) = [45] ++ [45] from rfl, suf_snoc r _ _ (k + 1) (by omega), show ([45] : List UInt8) = [] ++ [45] from rfl, suf_snoc r _ _ k (by omega), suf_nil]
    simp
    exact And.comm
theorem suf_iff3 (r : List UInt8) (k : Nat) (hk : k ≤ r.length) : hasSuffix (r.take k) [45, 45, 33] = true ↔ 3 ≤ k ∧ r[k - 3]? = some 45 ∧ r[k - 2]? = some 45 ∧ r[k - 1]? = some 33 := by
  match k, hk with
  | 0, _ => rw [show ([45, 45, 33] : List UInt8) = [45, 45] ++ [33] from rfl, suf_zero]; simp
  | k + 1, h =>
    rw [show ([45, 45, 33] : List UInt8) = [45, 45] ++ [33] from rfl, suf_snoc r _ _ k (by omega), Bool.and_eq_true, suf_iff2 r k (by omega), decide_eq_true_iff]
    constructor
    · rintro ⟨h1, h2, h3, h4⟩
      exact ⟨by omega, by rw [show k + 1 - 3 = k - 2 by omega]; exact h3, by rw [show k + 1 - 2 = k - 1 by omega]; exact h4, h1⟩
    · rintro ⟨h1, h2, h3, h4⟩
      exact ⟨h4, by omega, by rw [show k - 2 = k + 1 - 3 by omega]; exact h2, by rw [show k - 1 = k + 1 - 2 by omega]; exact h3⟩
/-- No comment ends with the sign at j. -/
def noEnd (r : List UInt8) (j : Nat) : Prop := ¬ (r[j]? = some 62 ∧ (hasSuffix (r.take j) [45, 45] = true ∨ hasSuffix (r.take j) [45, 45, 33] = true))
theorem noEnd_other {r : List UInt8} {j : Nat} (h : r[j]? ≠ some 62) : noEnd r j := fun x => h x.1
theorem noEnd_none {r : List UInt8} {j : Nat} (h1 : hasSuffix (r.take j) [45, 45] = false) (h2 : hasSuffix (r.take j) [45, 45, 33] = false) : noEnd r j := fun x => by
  rcases x.2 with h | h
  · rw [h1] at h; cases h
  · rw [h2] at h; cases h
theorem end_of_noEnd {r : List UInt8} {n k : Nat} (h : ∀ j, j < n → noEnd r j) (h2 : k + 2 < n) (h3 : k + 3 < n ∨ r[k + 2]? ≠ some 33) : endAt r k = 0 := by
  rcases endAt_cases r k with ⟨_, h1⟩ | ⟨_, _, h1⟩ | ⟨e, _⟩
  · obtain ⟨a, b, c⟩ := (pre_iff3 r k).1 h1
    have hl := (List.getElem?_eq_some_iff.1 c).1
    exact absurd ⟨c, .inl ((suf_iff2 r (k + 2) (by omega)).2 ⟨by omega, by rw [show k + 2 - 2 = k by omega]; exact a, by rw [show k + 2 - 1 = k + 1 by omega]; exact b⟩)⟩ (h (k + 2) h2)
  · obtain ⟨a, b, c, d⟩ := (pre_iff4 r k).1 h1
    rcases h3 with h3 | h3
    · have hl := (List.getElem?_eq_some_iff.1 d).1
      exact absurd ⟨d, .inr ((suf_iff3 r (k + 3) (by omega)).2 ⟨by omega, by rw [show k + 3 - 3 = k by omega]; exact a, by rw [show k + 3 - 2 = k + 1 by omega]; exact b, by rw [show k + 3 - 1 = k + 2 by omega]; exact c⟩)⟩ (h (k + 3) h3)
    · exact absurd c h3
  · exact e
theorem body_two {r : List UInt8} {k : Nat} (h : ∀ j, j < k → noEnd r j) (hc : r[k]? = some 62) (hs : hasSuffix (r.take k) [45, 45] = true) : body r = (r.take (k - 2), k + 1) := by
  have hl := (List.getElem?_eq_some_iff.1 hc).1
  obtain ⟨h2, a, b⟩ := (suf_iff2 r k (by omega)).1 hs
  have he : endAt r (k - 2) = 3 := by
    unfold endAt
    rw [if_pos ((pre_iff3 r (k - 2)).2 ⟨a, by rw [show k - 2 + 1 = k - 1 by omega]; exact b, by rw [show k - 2 + 2 = k by omega]; exact hc⟩)]
  rw [body_hit he (by decide) (by omega) (fun j hj => end_of_noEnd h (by omega) ?_), show k - 2 + 3 = k + 1 by omega]
  by_cases hj1 : j + 3 < k
  · exact .inl hj1
  · refine .inr ?_
    rw [show j + 2 = k - 1 by omega, b]
    decide
theorem body_three {r : List UInt8} {k : Nat} (h : ∀ j, j < k → noEnd r j) (hc : r[k]? = some 62) (hs : hasSuffix (r.take k) [45, 45, 33] = true) : body r = (r.take (k - 3), k + 1) := by
  have hl := (List.getElem?_eq_some_iff.1 hc).1
  obtain ⟨h2, a, b, d⟩ := (suf_iff3 r k (by omega)).1 hs
  have he : endAt r (k - 3) = 4 := by
    unfold endAt
    rw [if_neg, if_pos ((pre_iff4 r (k - 3)).2 ⟨a, by rw [show k - 3 + 1 = k - 2 by omega]; exact b, by rw [show k - 3 + 2 = k - 1 by omega]; exact d, by rw [show k - 3 + 3 = k by omega]; exact hc⟩)]
    intro h3
    have := ((pre_iff3 r (k - 3)).1 h3).2.2
    rw [show k - 3 + 2 = k - 1 by omega, d] at this
    cases this
  rw [body_hit he (by decide) (by omega) (fun j hj => end_of_noEnd h (by omega) (.inl (by omega))), show k - 3 + 4 = k + 1 by omega]
theorem body_no {r : List UInt8} (h : ∀ j, j < r.length → noEnd r j) : body r = (bare r, r.length) := by
  refine body_miss fun j hj => ?_
  rcases endAt_cases r j with ⟨_, h1⟩ | ⟨_, _, h1⟩ | ⟨e, _⟩
  · have := pre_room h1 (by decide)
    simp at this
    refine end_of_noEnd h (by omega) (.inr ?_)
    rw [((pre_iff3 r j).1 h1).2.2]
    decide
  · have := pre_room h1 (by decide)
    simp at this
    exact end_of_noEnd h (by omega) (.inl (by omega))
  · exact e

/-! ### What begins, and what it is -/
def begB (r : List UInt8) : Bool := hasPrefix r [60, 33] || hasPrefix r [60, 63] || (hasPrefix r [60, 47] && (decide (2 < r.length) && !letterN (U8.B r 2)))
def doctypeB (r : List UInt8) : Bool := decide (9 ≤ r.length) && decide (lowL (r.take 9) = [60, 33, 100, 111, 99, 116, 121, 112, 101])
def poorAt (r : List UInt8) : Nat := if hasPrefix r [60, 63] = true then 1 else 2
def first (r : List UInt8) (cd : Bool) : Nat × List UInt8 × Nat :=
  if hasPrefix r [60, 33, 45, 45] = true then (4, (comment (r.drop 4)).1, 4 + (comment (r.drop 4)).2)
  else if doctypeB r = true then (5, [], (upTo r [62]).2)
  else if (hasPrefix r [60, 33, 91, 67, 68, 65, 84, 65, 91] && cd) = true then (1, (upTo (r.drop 9) [93, 93, 62]).1, 9 + (upTo (r.drop 9) [93, 93, 62]).2)
  else if hasPrefix r [60, 47, 62] = true then (0, [], 3)
  else (4, (upTo (r.drop (poorAt r)) [62]).1, poorAt r + (upTo (r.drop (poorAt r)) [62]).2)
theorem doctype_iff (r : List UInt8) : doctypeB r = (hasPrefix r [60, 33] && (decide (9 ≤ r.length) && decide (lowL ((r.drop 2).take 7) = [100, 111, 99, 116, 121, 112, 101]))) := by
  unfold doctypeB
  by_cases h : 9 ≤ r.length
  · rw [decide_eq_true h, Bool.true_and, Bool.true_and]
    have hr : r.take 9 = r.take 2 ++ (r.drop 2).take 7 := by rw [show 9 = 2 + 7 from rfl, List.take_add]
    have h2 : hasPrefix r [60, 33] = decide (lowL (r.take 2) = [60, 33]) := by
      match r, h with
      | a :: b :: t, _ =>
        unfold hasPrefix lowL
        have hlow : ∀ c : UInt8, ∀ n : UInt8, n.toNat < 65 → (lowC c = n ↔ n = c) := by
          intro c n hn
          constructor
          · intro e
            have h1 := congrArg UInt8.toNat e
            rw [lowC_num] at h1
            split at h1
            · omega
            · exact (UInt8.toNat_inj.1 h1).symm
          · intro e
            subst e
            unfold lowC
            rw [if_neg (by omega)]
        rw [Bool.eq_iff_iff]
        simp [hlow a 60 (by decide), hlow b 33 (by decide)]
    rw [h2, hr, show ([60, 33, 100, 111, 99, 116, 121, 112, 101] : List UInt8) = [60, 33] ++ [100, 111, 99, 116, 121, 112, 101] from rfl]
    unfold lowL
    rw [List.map_append, Bool.eq_iff_iff, Bool.and_eq_true, decide_eq_true_iff, decide_eq_true_iff, decide_eq_true_iff]
    constructor
    · intro e
      exact List.append_inj e (by simp; omega)
    · rintro ⟨e1, e2⟩
      rw [e1, e2]
  · rw [decide_eq_false h]
    simp
theorem beg_two {r : List UInt8} (h : begB r = true) : 2 ≤ r.length := by
  unfold begB at h
  simp only [Bool.or_eq_true, Bool.and_eq_true] at h
  rcases h with (h | h) | ⟨h, _⟩
  · have := pre_room (m := 0) h (by decide); simpa using this
  · have := pre_room (m := 0) h (by decide); simpa using this
  · have := pre_room (m := 0) h (by decide); simpa using this
theorem poor_le {r : List UInt8} : poorAt r ≤ 2 ∧ 1 ≤ poorAt r := by unfold poorAt; split <;> omega
/-- It ends further on, within the bytes; its text stands there. -/
theorem first_form {r : List UInt8} (cd : Bool) (h : begB r = true) : (first r cd).2.2 ≤ r.length ∧ 2 ≤ (first r cd).2.2 ∧ ((first r cd).1 = 0 ∨ (first r cd).1 = 1 ∨ (first r cd).1 = 4 ∨ (first r cd).1 = 5) ∧ ∃ a m, a + m ≤ (first r cd).2.2 ∧ (first r cd).2.1 = (r.drop a).take m := by
  have h2 := beg_two h
  unfold first
  by_cases c1 : hasPrefix r [60, 33, 45, 45] = true
  · simp only [if_pos c1]
    have hr := pre_room (m := 0) c1 (by decide)
    simp at hr
    obtain ⟨m, e1, e2, e3⟩ := comment_form (r.drop 4)
    rw [List.length_drop] at e3
    exact ⟨by omega, by omega, by simp, 4, m, by omega, e1⟩
  simp only [if_neg c1]
  by_cases c2 : doctypeB r = true
  · simp only [if_pos c2]
    obtain ⟨m, e1, e2, e3⟩ := upTo_form r [62] (by decide)
    refine ⟨e3, ?_, by simp, 0, 0, by omega, by simp⟩
    rw [doctype_iff] at c2
    have c3 : hasPrefix r [60, 33] = true := by
      simp only [Bool.and_eq_true] at c2
      exact c2.1
    rcases first_or_none (fun j => hasPrefix (r.drop j) [62]) r.length with ⟨m, h1, h2', h3⟩ | h'
    · rw [upTo_hit (by omega) h2' h3]
      match m with
      | 0 =>
        have := (List.isPrefixOf_iff_prefix.1 c3)
        obtain ⟨t, rfl⟩ := this
        exact absurd h2' (by simp [hasPrefix])
      | m + 1 => simp
    · rw [upTo_none (by decide) h']
      exact h2
  simp only [if_neg c2]
  by_cases c3 : (hasPrefix r [60, 33, 91, 67, 68, 65, 84, 65, 91] && cd) = true
  · simp only [if_pos c3]
    have hr := pre_room (m := 0) (Bool.and_eq_true_iff.1 c3).1 (by decide)
    simp at hr
    obtain ⟨m, e1, e2, e3⟩ := upTo_form (r.drop 9) [93, 93, 62] (by decide)
    rw [List.length_drop] at e3
    exact ⟨by omega, by omega, by simp, 9, m, by omega, e1⟩
  simp only [if_neg c3]
  by_cases c4 : hasPrefix r [60, 47, 62] = true
  · simp only [if_pos c4]
    have hr := pre_room (m := 0) c4 (by decide)
    simp at hr
    exact ⟨hr, by omega, by simp, 0, 0, by omega, by simp⟩
  simp only [if_neg c4]
  obtain ⟨m, e1, e2, e3⟩ := upTo_form (r.drop (poorAt r)) [62] (by decide)
  rw [List.length_drop] at e3
  have hp := poor_le (r := r)
  refine ⟨by omega, ?_, by simp, poorAt r, m, by omega, e1⟩
  by_cases c5 : hasPrefix r [60, 63] = true
  · have hp1 : poorAt r = 1 := by unfold poorAt; rw [if_pos c5]
    rw [hp1]
    rcases first_or_none (fun j => hasPrefix ((r.drop 1).drop j) [62]) (r.drop 1).length with ⟨m, h1, h2', h3⟩ | h'
    · rw [upTo_hit (by omega) h2' h3]
      simp
      omega
    · rw [upTo_none (by decide) h', List.length_drop]
      show 2 ≤ 1 + (r.length - 1)
      omega
  · have hp1 : poorAt r = 2 := by unfold poorAt; rw [if_neg c5]
    omega

/-! ### A comment that is written well -/
theorem first_back (t more : List UInt8) (h3 : ∀ k, hasPrefix (t.drop k) [45, 45, 62] = false) (h4 : ∀ k, hasPrefix (t.drop k) [45, 45, 33, 62] = false) (h0 : t[0]? ≠ some 62) (hlast : t[t.length - 1]? ≠ some 45) (h5 : hasPrefix t [45, 62] = false) (h6 : hasSuffix t [45, 45, 33] = false) :
    begB ([60, 33, 45, 45] ++ (t ++ ([45, 45, 62] ++ more))) = true ∧ first ([60, 33, 45, 45] ++ (t ++ ([45, 45, 62] ++ more))) false = (4, t, t.length + 7) := by
  obtain ⟨r, hr⟩ : ∃ r, t ++ ([45, 45, 62] ++ more) = r := ⟨_, rfl⟩
  rw [hr]
  have hlen : r.length = t.length + 3 + more.length := by rw [← hr]; simp; omega
  have gin : ∀ k, k < t.length → r[k]? = t[k]? := fun k hk => by rw [← hr, List.getElem?_append_left hk]
  have gout : ∀ k, r[t.length + k]? = ([45, 45, 62] ++ more)[k]? := fun k => by rw [← hr, List.getElem?_append_right (by omega), show t.length + k - t.length = k by omega]
  have g0 : r[t.length]? = some 45 := by have := gout 0; simpa using this
  have g1 : r[t.length + 1]? = some 45 := by have := gout 1; simpa using this
  have g2 : r[t.length + 2]? = some 62 := by have := gout 2; simpa using this
  have hend : endAt r t.length = 3 := by
    unfold endAt
    rw [if_pos ((pre_iff3 r t.length).2 ⟨g0, g1, g2⟩)]
  have hno : ∀ j, j < t.length → endAt r j = 0 := by
    intro j hj
    rcases endAt_cases r j with ⟨_, h⟩ | ⟨_, _, h⟩ | ⟨e, _⟩
    · obtain ⟨a, b, c⟩ := (pre_iff3 r j).1 h
      exfalso
      by_cases e1 : j + 1 = t.length
      · rw [gin j hj] at a
        exact hlast (by rw [show t.length - 1 = j by omega]; exact a)
      by_cases e2 : j + 2 = t.length
      · rw [gin (j + 1) (by omega)] at b
        exact hlast (by rw [show t.length - 1 = j + 1 by omega]; exact b)
      have : hasPrefix (t.drop j) [45, 45, 62] = true := (pre_iff3 t j).2 ⟨by rw [← gin j hj]; exact a, by rw [← gin (j + 1) (by omega)]; exact b, by rw [← gin (j + 2) (by omega)]; exact c⟩
      rw [h3 j] at this; cases this
    · obtain ⟨a, b, c, d⟩ := (pre_iff4 r j).1 h
      exfalso
      by_cases e1 : j + 1 = t.length
      · rw [gin j hj] at a
        exact hlast (by rw [show t.length - 1 = j by omega]; exact a)
      by_cases e2 : j + 2 = t.length
      · rw [gin (j + 1) (by omega)] at b
        exact hlast (by rw [show t.length - 1 = j + 1 by omega]; exact b)
      rw [gin j hj] at a
      rw [gin (j + 1) (by omega)] at b
      rw [gin (j + 2) (by omega)] at c
      by_cases e3 : j + 3 = t.length
      · have : hasSuffix (t.take t.length) [45, 45, 33] = true := (suf_iff3 t t.length (Nat.le_refl _)).2 ⟨by omega, by rw [show t.length - 3 = j by omega]; exact a, by rw [show t.length - 2 = j + 1 by omega]; exact b, by rw [show t.length - 1 = j + 2 by omega]; exact c⟩
        rw [List.take_length, h6] at this
        cases this
      have : hasPrefix (t.drop j) [45, 45, 33, 62] = true := (pre_iff4 t j).2 ⟨a, b, c, by rw [← gin (j + 3) (by omega)]; exact d⟩
      rw [h4 j] at this; cases this
    · exact e
  have hbody : body r = (t, t.length + 3) := by
    rw [body_hit hend (by decide) (by omega) hno, ← hr, List.take_left]
  have hp1 : hasPrefix r [62] = false := by
    have := pre_one r 0 62 []
    rw [List.drop_zero] at this
    rw [this, pre_nil, Bool.and_true]
    refine decide_eq_false fun e => ?_
    by_cases hz : t.length = 0
    · rw [hz] at g0
      rw [g0] at e
      cases e
    · rw [gin 0 (by omega)] at e
      exact h0 e
  have hp2 : hasPrefix r [45, 62] = false := by
    cases hc : hasPrefix r [45, 62] with
    | false => rfl
    | true =>
      have h1 := pre_one r 0 45 [62]
      rw [List.drop_zero, hc, pre_one, pre_nil, Bool.and_true] at h1
      have h2 := h1.symm
      simp only [Bool.and_eq_true, decide_eq_true_iff] at h2
      obtain ⟨a, b⟩ := h2
      by_cases hz : t.length = 0
      · rw [hz] at g1
        rw [g1] at b
        cases b
      by_cases hz : t.length = 1
      · rw [gin 0 (by omega)] at a
        exact absurd a (by rw [show t.length - 1 = 0 by omega] at hlast; exact hlast)
      rw [gin 0 (by omega)] at a
      rw [gin 1 (by omega)] at b
      have h3 := pre_one t 0 45 [62]
      rw [List.drop_zero, h5, pre_one, pre_nil, Bool.and_true, decide_eq_true a, decide_eq_true b] at h3
      cases h3
  have hcom : comment r = (t, t.length + 3) := by
    unfold comment
    rw [hp1, hp2, if_neg (by decide), if_neg (by decide)]
    exact hbody
  have hp : hasPrefix ([60, 33, 45, 45] ++ r) [60, 33, 45, 45] = true := by unfold hasPrefix; rw [List.isPrefixOf_iff_prefix]; exact List.prefix_append _ _
  have hb : hasPrefix ([60, 33, 45, 45] ++ r) [60, 33] = true := by unfold hasPrefix; rfl
  refine ⟨?_, ?_⟩
  · unfold begB
    rw [hb]
    rfl
  · unfold first
    rw [if_pos hp]
    show (4, (comment r).1, 4 + (comment r).2) = _
    rw [hcom]
    show (4, t, 4 + (t.length + 3)) = _
    rw [show 4 + (t.length + 3) = t.length + 7 by omega]

/-- Does a text stand in another one? -/
def hasB (l p : List UInt8) : Bool := decide (∃ k, k ≤ l.length ∧ hasPrefix (l.drop k) p = true)
end Go.Proofs.YtgldgdopabmefaaGreatDoor.Note
