/- Plain Lean: the last element of which something holds; what package open says by it. -/
import Derived.Test.YtolbohmalgklmaaOpenPl
namespace Go.Proofs.Ytolbohmalgklmaa.Opn
open Go.Lib
set_option maxRecDepth 100000
set_option linter.unusedVariables false

/-- The place of the last of the first n elements of which it holds; -1: there is none. -/
def lastI (st : E → Bool) (l : List E) : Nat → Int
  | 0 => -1
  | n + 1 => match l[n]? with
    | none => -1
    | some x => if st x then (n : Int) else lastI st l n
theorem lastI_step {st : E → Bool} {l : List E} {n : Nat} {x : E} (hx : l[n]? = some x) : lastI st l (n + 1) = if st x then (n : Int) else lastI st l n := by simp [lastI, hx]
theorem lastI_is (st : E → Bool) (l : List E) : ∀ n, lastI st l n = -1 ∨ ∃ (k : Nat) (x : E), lastI st l n = k ∧ k < n ∧ l[k]? = some x ∧ st x = true
  | 0 => .inl rfl
  | n + 1 => by
    cases hx : l[n]? with
    | none => exact .inl (by simp [lastI, hx])
    | some x =>
      rw [lastI_step hx]
      by_cases hs : st x = true
      · rw [if_pos hs]
        exact .inr ⟨n, x, rfl, Nat.lt_succ_self _, hx, hs⟩
      · rw [if_neg hs]
        exact (lastI_is st l n).imp id fun ⟨k, y, h1, h2, h3⟩ => ⟨k, y, h1, Nat.lt_succ_of_lt h2, h3⟩
theorem until_last (l : List E) (ns : List (List UInt8)) : ∀ n, untilI l ns n = lastI (fun x => oneB x ns) l n
  | 0 => rfl
  | n + 1 => by
    cases hx : l[n]? with
    | none => simp [untilI, lastI, hx]
    | some x => rw [lastI_step hx, untilI_step hx, until_last l ns n]
/-- What stops Implied. -/
def impS (ex : List UInt8) (x : E) : Bool := !oneB x impN || decide (x.name = ex)
theorem implied_last (l : List E) (ex : List UInt8) : ∀ n, n ≤ l.length → (impliedN l ex n : Int) = lastI (impS ex) l n + 1
  | 0, _ => rfl
  | n + 1, h => by
    have hx : l[n]? = some l[n] := List.getElem?_eq_getElem (by omega)
    generalize l[n] = x at hx
    rw [lastI_step hx, impliedN_step hx]
    by_cases hs : x.name ≠ ex ∧ oneB x impN = true
    · rw [if_pos hs, implied_last l ex n (by omega), if_neg (by simp [impS, hs.1, hs.2])]
    · rw [if_neg hs, if_pos (by
        simp only [impS, Bool.or_eq_true, Bool.not_eq_true', decide_eq_true_eq]
        by_cases h1 : x.name = ex
        · exact .inr h1
        · exact .inl (by cases h2 : oneB x impN with | false => rfl | true => exact absurd ⟨h1, h2⟩ hs))]
      omega
/-- What stops Clear. -/
def clrS (ns : List (List UInt8)) (x : E) : Bool := oneB x ns || oneB x endN
theorem clear_last (l : List E) (ns : List (List UInt8)) : ∀ n, n ≤ l.length → (clearN l ns n : Int) = lastI (clrS ns) l n + 1
  | 0, _ => rfl
  | n + 1, h => by
    have hx : l[n]? = some l[n] := List.getElem?_eq_getElem (by omega)
    generalize l[n] = x at hx
    rw [lastI_step hx, clearN_step hx]
    cases h1 : oneB x ns with
    | true => simp [clrS, h1]
    | false =>
      cases h2 : oneB x endN with
      | true => simp [clrS, h1, h2]
      | false =>
        rw [if_neg (show ¬ clrS ns x = true by simp [clrS, h1, h2]), if_pos ⟨rfl, rfl⟩]
        exact clear_last l ns n (by omega)
/-- What stops In. -/
def inS (sc : Nat) (ns : List (List UInt8)) (x : E) : Bool := oneB x ns || boundB x sc
theorem in_last (l : List E) (sc : Nat) (ns : List (List UInt8)) : ∀ n, (lastI (inS sc ns) l n = -1 ∧ inB l sc ns n = false) ∨ ∃ (k : Nat) (x : E), lastI (inS sc ns) l n = k ∧ k < n ∧ l[k]? = some x ∧ inB l sc ns n = oneB x ns
  | 0 => .inl ⟨rfl, rfl⟩
  | n + 1 => by
    cases hx : l[n]? with
    | none => exact .inl ⟨by simp [lastI, hx], by simp [inB, hx]⟩
    | some x =>
      rw [lastI_step hx, inB_step hx]
      cases h1 : oneB x ns with
      | true => exact .inr ⟨n, x, by simp [inS, h1], Nat.lt_succ_self _, hx, by simp [h1]⟩
      | false =>
        cases h2 : boundB x sc with
        | true => exact .inr ⟨n, x, by simp [inS, h2], Nat.lt_succ_self _, hx, by simp [h1]⟩
        | false =>
          rw [if_neg (show ¬ inS sc ns x = true by simp [inS, h1, h2])]
          simp only [Bool.false_eq_true, if_false]
          exact (in_last l sc ns n).imp id fun ⟨k, y, a1, a2, a3⟩ => ⟨k, y, a1, Nat.lt_succ_of_lt a2, a3⟩
/-- What keeps an item. -/
def keepB (x : E) : Bool := specialB x.space x.name && !oneB x adpN
/-- What stops Item. -/
def itmS (ns : List (List UInt8)) (x : E) : Bool := oneB x ns || keepB x
theorem item_last (l : List E) (ns : List (List UInt8)) : ∀ n, (lastI (itmS ns) l n = -1 ∧ itemI l ns n = -1) ∨ ∃ (k : Nat) (x : E), lastI (itmS ns) l n = k ∧ k < n ∧ l[k]? = some x ∧ itemI l ns n = if oneB x ns then (k : Int) else -1
  | 0 => .inl ⟨rfl, rfl⟩
  | n + 1 => by
    cases hx : l[n]? with
    | none => exact .inl ⟨by simp [lastI, hx], by simp [itemI, hx]⟩
    | some x =>
      rw [lastI_step hx, itemI_step hx]
      cases h1 : oneB x ns with
      | true => exact .inr ⟨n, x, by simp [itmS, h1], Nat.lt_succ_self _, hx, by simp [h1]⟩
      | false =>
        cases h2 : keepB x with
        | true => exact .inr ⟨n, x, by simp [itmS, h2], Nat.lt_succ_self _, hx, by rw [show (specialB x.space x.name && !oneB x adpN) = true from h2, h1]; rfl⟩
        | false =>
          rw [if_neg (show ¬ itmS ns x = true by simp [itmS, h1, h2]), show (specialB x.space x.name && !oneB x adpN) = false from h2]
          simp only [Bool.false_eq_true, if_false]
          exact (item_last l ns n).imp id fun ⟨k, y, a1, a2, a3⟩ => ⟨k, y, a1, Nat.lt_succ_of_lt a2, a3⟩
end Go.Proofs.Ytolbohmalgklmaa.Opn
