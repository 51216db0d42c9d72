/- Plain Lean: what package rule says, over lists of names. Nothing of a program stands here. -/
import Derived.Test.YtpheaepifjcmiaaDoorUrl
namespace Go.Proofs.YtpheaepifjcmiaaDoor.Rule
open Go.Lib
set_option maxRecDepth 100000
set_option linter.unusedVariables false

/-! ### Names -/
def Row := List UInt8 × Nat
def nm (r : Row) : List UInt8 := r.1
def kd (r : Row) : Nat := r.2
def look (t : List Row) (k : List UInt8) : Option Row := t.find? fun r => nm r == k
def kindIn (t : List Row) (k : List UInt8) : Nat := ((look t k).map kd).getD 0
def part1 : List Row := [([117], 1), ([115], 1), ([113], 3), ([112], 1), ([105], 1), ([98], 1), ([97], 1)]
def part2 : List Row := [([116, 114], 2), ([116, 104], 2), ([116, 100], 2), ([104, 54], 1), ([104, 53], 1), ([104, 52], 1), ([104, 51], 1), ([104, 50], 1), ([104, 49], 1), ([117, 108], 1), ([111, 108], 1), ([108, 105], 1), ([104, 114], 1), ([101, 109], 1), ([100, 116], 1), ([100, 108], 1), ([100, 100], 1), ([98, 114], 1)]
def part3 : List Row := [([118, 97, 114], 1), ([115, 117, 112], 1), ([115, 117, 98], 1), ([112, 114, 101], 1), ([107, 98, 100], 1), ([105, 109, 103], 1), ([100, 105, 118], 1), ([105, 110, 115], 3), ([100, 101, 108], 3)]
def part4 : List Row := [([116, 104, 101, 97, 100], 2), ([116, 102, 111, 111, 116], 2), ([116, 98, 111, 100, 121], 2), ([116, 97, 98, 108, 101], 2), ([98, 108, 111, 99, 107, 113, 117, 111, 116, 101], 3), ([115, 116, 114, 111, 110, 103], 1), ([115, 112, 97, 110], 1), ([115, 109, 97, 108, 108], 1), ([115, 97, 109, 112], 1), ([99, 111, 100, 101], 1), ([99, 105, 116, 101], 1), ([97, 98, 98, 114], 1)]
def attrT : List Row := [([115, 114, 99], 5), ([104, 114, 101, 102], 5), ([99, 105, 116, 101], 4), ([119, 105, 100, 116, 104], 1), ([116, 105, 116, 108, 101], 1), ([115, 116, 97, 114, 116], 1), ([114, 111, 119, 115, 112, 97, 110], 1), ([108, 97, 110, 103], 1), ([104, 101, 105, 103, 104, 116], 1), ([100, 105, 114], 1), ([99, 111, 108, 115, 112, 97, 110], 1), ([99, 108, 97, 115, 115], 1), ([97, 108, 116], 1), ([97, 108, 105, 103, 110], 1)]
def names : List (List UInt8) := [[97], [97, 98, 98, 114], [98], [98, 108, 111, 99, 107, 113, 117, 111, 116, 101], [98, 114], [99, 105, 116, 101], [99, 111, 100, 101], [100, 100], [100, 101, 108], [100, 105, 118], [100, 108], [100, 116], [101, 109], [104, 49], [104, 50], [104, 51], [104, 52], [104, 53], [104, 54], [104, 114], [105], [105, 109, 103], [105, 110, 115], [107, 98, 100], [108, 105], [111, 108], [112], [112, 114, 101], [113], [115], [115, 97, 109, 112], [115, 109, 97, 108, 108], [115, 112, 97, 110], [115, 116, 114, 111, 110, 103], [115, 117, 98], [115, 117, 112], [116, 97, 98, 108, 101], [116, 98, 111, 100, 121], [116, 100], [116, 102, 111, 111, 116], [116, 104], [116, 104, 101, 97, 100], [116, 114], [117], [117, 108], [118, 97, 114]]
def attrN : List (List UInt8) := [[97, 108, 105, 103, 110], [97, 108, 116], [99, 105, 116, 101], [99, 108, 97, 115, 115], [99, 111, 108, 115, 112, 97, 110], [100, 105, 114], [104, 101, 105, 103, 104, 116], [104, 114, 101, 102], [108, 97, 110, 103], [114, 111, 119, 115, 112, 97, 110], [115, 114, 99], [115, 116, 97, 114, 116], [116, 105, 116, 108, 101], [119, 105, 100, 116, 104]]
def tableN : List (List UInt8) := [[116, 97, 98, 108, 101], [116, 98, 111, 100, 121], [116, 100], [116, 102, 111, 111, 116], [116, 104], [116, 104, 101, 97, 100], [116, 114]]
/- In each the row that is stored last stands first. -/
def partOf (n : Nat) : List Row := if n = 1 then part1 else if n = 2 then part2 else if n = 3 then part3 else part4
def allT : List Row := part1 ++ part2 ++ part3 ++ part4
def kindOf (l : List UInt8) : Nat := kindIn (partOf l.length) l
def attrOf (l : List UInt8) : Nat := kindIn attrT l
theorem partOf_all (n : Nat) : ∀ r ∈ partOf n, r ∈ allT := by
  intro r h
  unfold partOf at h
  unfold allT
  simp only [List.mem_append]
  split at h
  · exact .inl (.inl (.inl h))
  split at h
  · exact .inl (.inl (.inr h))
  split at h
  · exact .inl (.inr h)
  · exact .inr h
theorem kindIn_some {t : List Row} {l : List UInt8} (h : kindIn t l ≠ 0) : ∃ r ∈ t, nm r = l := by
  unfold kindIn look at h
  cases hf : t.find? (fun r => nm r == l) with
  | none => rw [hf] at h; exact absurd rfl h
  | some r =>
    refine ⟨r, List.mem_of_find?_eq_some hf, ?_⟩
    have := List.find?_some hf
    simpa using this
theorem all_names : ∀ r ∈ allT, nm r ∈ names := by decide +kernel
theorem names_all : ∀ l ∈ names, kindOf l ≠ 0 := by decide +kernel
theorem all_table : ∀ r ∈ allT, kindOf (nm r) = 2 → nm r ∈ tableN := by decide +kernel
theorem table_all : ∀ l ∈ tableN, kindOf l = 2 := by decide +kernel
theorem attr_names : ∀ r ∈ attrT, nm r ∈ attrN := by decide +kernel
theorem names_attr : ∀ l ∈ attrN, attrOf l ≠ 0 := by decide +kernel
theorem known_iff (l : List UInt8) : kindOf l ≠ 0 ↔ l ∈ names := by
  constructor
  · intro h
    obtain ⟨r, hr, rfl⟩ := kindIn_some h
    exact all_names r (partOf_all _ r hr)
  · exact names_all l
theorem table_iff (l : List UInt8) : kindOf l = 2 ↔ l ∈ tableN := by
  constructor
  · intro h
    obtain ⟨r, hr, rfl⟩ := kindIn_some (show kindIn (partOf l.length) l ≠ 0 from fun e => by
      have h' : kindIn (partOf l.length) l = 2 := h
      omega)
    exact all_table r (partOf_all _ r hr) h
  · exact table_all l
theorem attr_iff (l : List UInt8) : attrOf l ≠ 0 ↔ l ∈ attrN := by
  constructor
  · intro h
    obtain ⟨r, hr, rfl⟩ := kindIn_some h
    exact attr_names r hr
  · exact names_attr l
theorem kind_lt : ∀ r ∈ allT, kd r < 6 := by decide +kernel
theorem attr_lt : ∀ r ∈ attrT, kd r < 6 := by decide +kernel
theorem kindIn_lt {t : List Row} (h : ∀ r ∈ t, kd r < 6) (l : List UInt8) : kindIn t l < 6 := by
  unfold kindIn look
  cases hf : t.find? (fun r => nm r == l) with
  | none => exact Nat.succ_pos 5
  | some r => exact h r (List.mem_of_find?_eq_some hf)
theorem kindOf_lt (l : List UInt8) : kindOf l < 6 := kindIn_lt (fun r h => kind_lt r (partOf_all _ r h)) l
theorem attrOf_lt (l : List UInt8) : attrOf l < 6 := kindIn_lt attr_lt l
def knownB (l : List UInt8) : Bool := names.contains l
def tabB (l : List UInt8) : Bool := tableN.contains l
def attrB (l : List UInt8) : Bool := attrN.contains l
theorem knownB_eq (l : List UInt8) : knownB l = !(kindOf l == 0) := by
  have := known_iff l
  unfold knownB
  rw [Bool.eq_iff_iff, List.contains_iff_mem]
  simp only [Bool.not_eq_true', beq_eq_false_iff_ne, ne_eq]
  exact this.symm
theorem tabB_eq (l : List UInt8) : tabB l = (kindOf l == 2) := by
  have := table_iff l
  unfold tabB
  rw [Bool.eq_iff_iff, List.contains_iff_mem, beq_iff_eq]
  exact this.symm
theorem attrB_eq (l : List UInt8) : attrB l = !(attrOf l == 0) := by
  have := attr_iff l
  unfold attrB
  rw [Bool.eq_iff_iff, List.contains_iff_mem]
  simp only [Bool.not_eq_true', beq_eq_false_iff_ne, ne_eq]
  exact this.symm

/-! ### Once -/
section
variable {α : Type} [DecidableEq α]
def onceB (p : α → Bool) (l : List α) : Bool := l.all p && decide l.Nodup
theorem onceB_iff {p : α → Bool} {l : List α} : onceB p l = true ↔ (∀ x ∈ l, p x = true) ∧ l.Nodup := by
  unfold onceB
  rw [Bool.and_eq_true, List.all_eq_true, decide_eq_true_eq]
theorem once_nil (p : α → Bool) : onceB p ([] : List α) = true := onceB_iff.2 ⟨fun x h => (by cases h), List.nodup_nil⟩
theorem once_take {p : α → Bool} {l : List α} (k : Nat) (h : onceB p l = true) : onceB p (l.take k) = true := by
  obtain ⟨h1, h2⟩ := onceB_iff.1 h
  exact onceB_iff.2 ⟨fun x hx => h1 x (List.mem_of_mem_take hx), h2.sublist (List.take_sublist k l)⟩
theorem once_perm {p : α → Bool} {l m : List α} (h : l.Perm m) : onceB p l = onceB p m := by
  rw [Bool.eq_iff_iff, onceB_iff, onceB_iff, h.nodup_iff]
  exact and_congr_left fun _ => ⟨fun a x hx => a x (h.mem_iff.2 hx), fun a x hx => a x (h.mem_iff.1 hx)⟩
theorem once_sub {p : α → Bool} {l m : List α} (h : m.Sublist l) (ho : onceB p l = true) : onceB p m = true := by
  obtain ⟨h1, h2⟩ := onceB_iff.1 ho
  exact onceB_iff.2 ⟨fun x hx => h1 x (h.subset hx), h2.sublist h⟩
theorem once_congr {p q : α → Bool} {l : List α} (h : ∀ x, p x = q x) : onceB p l = onceB q l := by
  rw [show p = q from funext h]
end
section
variable {α : Type} [DecidableEq α] [BEq α] [LawfulBEq α]
theorem once_next {p : α → Bool} {l : List α} {k : Nat} {x : α} (h : onceB p (l.take k) = true) (hx : l[k]? = some x) (hp : p x = true) (hn : (l.take k).contains x = false) : onceB p (l.take (k + 1)) = true := by
  obtain ⟨h1, h2⟩ := onceB_iff.1 h
  rw [List.take_add_one, hx]
  refine onceB_iff.2 ⟨fun y hy => ?_, ?_⟩
  · rcases List.mem_append.1 hy with hy | hy
    · exact h1 y hy
    · rw [List.mem_singleton.1 hy]; exact hp
  · refine List.nodup_append.2 ⟨h2, by simp, ?_⟩
    intro a ha b hb e
    have hb' := List.mem_singleton.1 hb
    subst hb'
    subst e
    have := List.contains_iff_mem.2 ha
    rw [hn] at this
    cases this
theorem once_bad {p : α → Bool} {l : List α} {k : Nat} {x : α} (hx : l[k]? = some x) (h : p x = false ∨ (l.take k).contains x = true) : onceB p l = false := by
  cases ho : onceB p l with
  | false => rfl
  | true =>
    have := once_take (k + 1) ho
    rw [List.take_add_one, hx] at this
    obtain ⟨h1, h2⟩ := onceB_iff.1 this
    rcases h with h | h
    · have := h1 x (by simp)
      rw [h] at this
      cases this
    · have h3 := (List.nodup_append.1 h2).2.2 x (List.contains_iff_mem.1 h) x (by simp)
      exact absurd rfl h3
end

/-! ### Check -/
def js : List UInt8 := [106, 97, 118, 97, 115, 99, 114, 105, 112, 116]
def vb : List UInt8 := [118, 98, 115, 99, 114, 105, 112, 116]
def da : List UInt8 := [100, 97, 116, 97]
def leadB (s : List UInt8) : Bool := if s = js ∨ s = vb ∨ s = da then false else if 64 < s.length then false else Url.scheme (s ++ [58]) == some s
def haveB (es : List (List UInt8)) (a : List UInt8 × List UInt8) : Bool := es.contains a.1 && attrB a.2
def tabsN (es : List (List UInt8)) : Nat := es.countP tabB
def wholeB (es : List (List UInt8)) : Bool := tabsN es == 0 || tabsN es == 7
/-- A list that is not too long, all of it once, and each may be. -/
def listB {α : Type} [DecidableEq α] (p : α → Bool) (l : List α) : Bool := decide (l.length ≤ 400) && onceB p l
def okB (es : List (List UInt8)) (ats : List (List UInt8 × List UInt8)) (ss : List (List UInt8)) : Bool :=
  listB knownB es && (wholeB es && (listB (haveB es) ats && listB leadB ss))
def isAddr (el nm : List UInt8) : Bool := if attrOf nm = 5 then true else if attrOf nm = 4 then kindOf el == 3 else false
def keepsB (ats : List (List UInt8 × List UInt8)) (ss : List (List UInt8)) (el nm val : List UInt8) : Bool := ats.contains (el, nm) && (Url.safe val ss || !isAddr el nm)

theorem list_perm {α : Type} [DecidableEq α] {p : α → Bool} {l m : List α} (h : l.Perm m) : listB p l = listB p m := by
  unfold listB; rw [h.length_eq, once_perm h]
theorem contains_perm {α : Type} [BEq α] [LawfulBEq α] {l m : List α} (h : l.Perm m) (x : α) : l.contains x = m.contains x := by
  rw [Bool.eq_iff_iff, List.contains_iff_mem, List.contains_iff_mem, h.mem_iff]
theorem ok_perm {es es' : List (List UInt8)} {ats ats' : List (List UInt8 × List UInt8)} {ss ss' : List (List UInt8)} (h1 : es.Perm es') (h2 : ats.Perm ats') (h3 : ss.Perm ss') : okB es ats ss = okB es' ats' ss' := by
  unfold okB
  have e : haveB es = haveB es' := funext fun a => by unfold haveB; rw [contains_perm h1]
  rw [list_perm h1, list_perm h2, list_perm h3, e]
  unfold wholeB tabsN
  rw [h1.countP_eq]
theorem safe_perm {ss ss' : List (List UInt8)} (h : ss.Perm ss') (l : List UInt8) : Url.safe l ss = Url.safe l ss' := by
  unfold Url.safe
  cases Url.scheme l with
  | none => rfl
  | some x => exact contains_perm h x
theorem keeps_perm {ats ats' : List (List UInt8 × List UInt8)} {ss ss' : List (List UInt8)} (h2 : ats.Perm ats') (h3 : ss.Perm ss') (el nm val : List UInt8) : keepsB ats ss el nm val = keepsB ats' ss' el nm val := by
  unfold keepsB
  rw [contains_perm h2, safe_perm h3]
theorem safe_mono {ss ss' : List (List UInt8)} (h : ∀ x ∈ ss, x ∈ ss') {l : List UInt8} (hs : Url.safe l ss = true) : Url.safe l ss' = true := by
  unfold Url.safe at hs ⊢
  cases hx : Url.scheme l with
  | none => rfl
  | some x =>
    rw [hx] at hs
    exact List.contains_iff_mem.2 (h x (List.contains_iff_mem.1 hs))
theorem keeps_mono {ats ats' : List (List UInt8 × List UInt8)} {ss ss' : List (List UInt8)} (h2 : ∀ x ∈ ats, x ∈ ats') (h3 : ∀ x ∈ ss, x ∈ ss') {el nm val : List UInt8} (hk : keepsB ats ss el nm val = true) : keepsB ats' ss' el nm val = true := by
  unfold keepsB at hk ⊢
  rw [Bool.and_eq_true, Bool.or_eq_true] at hk ⊢
  exact ⟨List.contains_iff_mem.2 (h2 _ (List.contains_iff_mem.1 hk.1)), hk.2.imp (safe_mono h3) id⟩
theorem list_sub {α : Type} [DecidableEq α] {p : α → Bool} {l m : List α} (h : m.Sublist l) (hl : listB p l = true) : listB p m = true := by
  unfold listB at hl ⊢
  rw [Bool.and_eq_true, decide_eq_true_eq] at hl ⊢
  exact ⟨Nat.le_trans h.length_le hl.1, once_sub h hl.2⟩
theorem ok_sub {es : List (List UInt8)} {ats ats' : List (List UInt8 × List UInt8)} {ss ss' : List (List UInt8)} (h2 : ats'.Sublist ats) (h3 : ss'.Sublist ss) (h : okB es ats ss = true) : okB es ats' ss' = true := by
  unfold okB at h ⊢
  simp only [Bool.and_eq_true] at h ⊢
  exact ⟨h.1, h.2.1, list_sub h2 h.2.2.1, list_sub h3 h.2.2.2⟩

/-! ### Turned lists -/
section
variable {α : Type}
def turned (l : List α) (t : Nat) : List α := l.drop (t % l.length) ++ l.take (t % l.length)
theorem turned_perm (l : List α) (t : Nat) : (turned l t).Perm l := by
  unfold turned
  have := List.perm_append_comm (l₁ := l.drop (t % l.length)) (l₂ := l.take (t % l.length))
  rwa [List.take_append_drop] at this
theorem turned_len (l : List α) (t : Nat) : (turned l t).length = l.length := (turned_perm l t).length_eq
theorem turned_get (l : List α) (t i : Nat) (h : i < l.length) : (turned l t)[i]? = l[(i + t) % l.length]? := by
  have hm := Nat.mod_lt t (show 0 < l.length by omega)
  unfold turned
  have e : (i + t) % l.length = (i + t % l.length) % l.length := by rw [Nat.add_mod_mod]
  rw [e]
  obtain ⟨m, hmm⟩ : ∃ m, t % l.length = m := ⟨_, rfl⟩
  rw [hmm] at hm ⊢
  by_cases hc : i < l.length - m
  · rw [List.getElem?_append_left (by rw [List.length_drop]; omega), List.getElem?_drop, Nat.mod_eq_of_lt (by omega), Nat.add_comm]
  · rw [List.getElem?_append_right (by rw [List.length_drop]; omega), List.length_drop, List.getElem?_take_of_lt (by omega)]
    congr 1
    rw [Nat.mod_eq_sub_mod (by omega), Nat.mod_eq_of_lt (by omega)]
    omega
theorem turned_take (l : List α) (t k : Nat) (h : k < l.length) : ∃ x, l[(k + t) % l.length]? = some x ∧ (turned l t).take (k + 1) = (turned l t).take k ++ [x] := by
  have h1 := turned_get l t k h
  have hl : k < (turned l t).length := by rw [turned_len]; exact h
  refine ⟨(turned l t)[k], ?_, ?_⟩
  · rw [← h1, List.getElem?_eq_getElem hl]
  · rw [List.take_add_one, List.getElem?_eq_getElem hl]; rfl
/-- One less. -/
def less (l : List α) (i : Nat) : List α := l.take i ++ l.drop (i + 1)
theorem less_sub (l : List α) (i : Nat) : (less l i).Sublist l := by
  unfold less
  have h1 : (l.drop (i + 1)).Sublist (l.drop i) := by
    rw [show l.drop (i + 1) = (l.drop i).drop 1 by rw [List.drop_drop]]
    exact List.drop_sublist 1 _
  have := List.Sublist.append (List.Sublist.refl (l.take i)) h1
  rwa [List.take_append_drop] at this
end
end Go.Proofs.YtpheaepifjcmiaaDoor.Rule
