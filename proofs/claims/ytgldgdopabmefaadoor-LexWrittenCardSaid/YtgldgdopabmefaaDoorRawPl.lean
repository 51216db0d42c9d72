/- Plain Lean: what package raw says, over lists of bytes: ends of a name, where the text of a script ends, what the text is. Nothing of a program stands here. -/
import Derived.Test.YtgldgdopabmefaaDoorLwInv
import Derived.Test.YtgldgdopabmefaaDoorClsDig
import Derived.Test.YtgldgdopabmefaaDoorEnt
namespace Go.Proofs.YtgldgdopabmefaaDoor.Raw
open Go.Lib
set_option maxRecDepth 100000
set_option linter.unusedVariables false

/-! ### Ends of a name -/
/-- A byte that ends a tag's name stands first. -/
def closedB (r : List UInt8) : Bool := decide (0 < r.length) && (spaceN (U8.B r 0) || (U8.B r 0 == 47 || U8.B r 0 == 62))
/-- A text in small letters stands first, in letters of any size. -/
def wordB (r w : List UInt8) : Bool := decide (w.length ≤ r.length) && decide (lowL (r.take w.length) = w)
/-- An end of a name stands first; small: its signs and the name in small letters. -/
def endsB (r small : List UInt8) : Bool := wordB r small && closedB (r.drop small.length)
def smallN (name : List UInt8) : List UInt8 := [60, 47] ++ lowL name
theorem small_low (name : List UInt8) : smallN (lowL name) = smallN name := by unfold smallN; rw [lowL_low]
theorem closed_nil {r : List UInt8} (h : closedB r = true) : 0 < r.length := by
  unfold closedB at h
  simp only [Bool.and_eq_true, decide_eq_true_eq] at h
  exact h.1
theorem word_len {r w : List UInt8} (h : wordB r w = true) : w.length ≤ r.length := by
  unfold wordB at h
  simp only [Bool.and_eq_true, decide_eq_true_eq] at h
  exact h.1
theorem word_low {r w : List UInt8} (h : wordB r w = true) : lowL (r.take w.length) = w := by
  unfold wordB at h
  simp only [Bool.and_eq_true, decide_eq_true_eq] at h
  exact h.2
theorem ends_len {r small : List UInt8} (h : endsB r small = true) : small.length < r.length := by
  unfold endsB at h
  simp only [Bool.and_eq_true] at h
  have h1 := word_len h.1
  have h2 := closed_nil h.2
  rw [List.length_drop] at h2
  omega
theorem ends_low {r small : List UInt8} (h : endsB r small = true) : lowL (r.take small.length) = small := by
  unfold endsB at h
  simp only [Bool.and_eq_true] at h
  exact word_low h.1
theorem ends_nil {small : List UInt8} : endsB [] small = false := by
  cases h : endsB [] small with
  | false => rfl
  | true => have := ends_len h; simp at this

/-! ### The first end -/
/-- How far it is to the first end, or to the end of all. -/
def stop (small : List UInt8) : List UInt8 → Nat
  | [] => 0
  | c :: t => if endsB (c :: t) small = true then 0 else stop small t + 1
theorem stop_yes {small r : List UInt8} (h : endsB r small = true) : stop small r = 0 := by
  cases r with
  | nil => rfl
  | cons c t => unfold stop; rw [if_pos h]
theorem stop_no {small r : List UInt8} (h : endsB r small = false) (hr : 0 < r.length) : stop small r = stop small (r.drop 1) + 1 := by
  cases r with
  | nil => simp at hr
  | cons c t =>
    show (if endsB (c :: t) small = true then 0 else stop small t + 1) = _
    rw [if_neg (by rw [h]; decide)]
    rfl
theorem stop_form (small : List UInt8) : ∀ r : List UInt8, stop small r ≤ r.length ∧ (stop small r = r.length ∨ endsB (r.drop (stop small r)) small = true)
  | [] => ⟨Nat.le_refl _, .inl rfl⟩
  | c :: t => by
    by_cases h : endsB (c :: t) small = true
    · rw [stop_yes h]
      exact ⟨Nat.zero_le _, .inr h⟩
    · rw [stop_no (by simpa using h) (by simp)]
      obtain ⟨h1, h2⟩ := stop_form small t
      refine ⟨by simpa using h1, ?_⟩
      rcases h2 with h2 | h2
      · exact .inl (by simpa using h2)
      · exact .inr h2

/-! ### Scripts -/
def sOpen : List UInt8 := [60, 33, 45, 45]
def sScript : List UInt8 := [60, 115, 99, 114, 105, 112, 116]
def sEnd : List UInt8 := [60, 47, 115, 99, 114, 105, 112, 116]
/-- One step: the state behind it, the dashes, how far; none: it ends here. -/
def step (small : List UInt8) (st d : Nat) (r : List UInt8) : Option (Nat × Nat × Nat) :=
  if r.length = 0 then none
  else if st < 2 ∧ endsB r small = true then none
  else if st = 0 then (if wordB r sOpen = true then some (1, 2, 4) else some (0, d, 1))
  else if U8.B r 0 = 45 then some (st, d + 1, 1)
  else if U8.B r 0 = 62 ∧ 2 ≤ d then some (0, 0, 1)
  else if st = 1 ∧ wordB r sScript = true ∧ closedB (r.drop 7) = true then some (2, 0, 8)
  else if st = 2 ∧ endsB r sEnd = true then some (1, 0, 9)
  else some (st, 0, 1)
def runF (small : List UInt8) : Nat → Nat → Nat → List UInt8 → Nat
  | 0, _, _, _ => 0
  | f + 1, st, d, r => match step small st d r with
    | none => 0
    | some (st', d', a) => a + runF small f st' d' (r.drop a)
theorem step_far {small : List UInt8} {st d : Nat} {r : List UInt8} {x : Nat × Nat × Nat} (h : step small st d r = some x) : 1 ≤ x.2.2 ∧ x.2.2 ≤ r.length := by
  unfold step at h
  by_cases h0 : r.length = 0
  · rw [if_pos h0] at h; cases h
  rw [if_neg h0] at h
  split at h
  · cases h
  split at h
  · split at h
    · rename_i hw
      have := word_len hw
      cases h
      exact ⟨by decide, this⟩
    · cases h
      exact ⟨by show 1 ≤ 1; omega, by show 1 ≤ _; omega⟩
  split at h
  · cases h
    exact ⟨by show 1 ≤ 1; omega, by show 1 ≤ _; omega⟩
  split at h
  · cases h
    exact ⟨by decide, by show 1 ≤ _; omega⟩
  split at h
  · rename_i hw
    have h2 := closed_nil hw.2.2
    rw [List.length_drop] at h2
    cases h
    exact ⟨by decide, by show 8 ≤ _; omega⟩
  split at h
  · rename_i hw
    have h2 := ends_len hw.2
    cases h
    exact ⟨by decide, h2⟩
  · cases h
    exact ⟨by show 1 ≤ 1; omega, by show 1 ≤ _; omega⟩
theorem runF_fuel {small : List UInt8} : ∀ (f g : Nat) (st d : Nat) (r : List UInt8), r.length < f → r.length < g → runF small f st d r = runF small g st d r
  | 0, _, _, _, r, h, _ => absurd h (Nat.not_lt_zero _)
  | _ + 1, 0, _, _, r, _, h => absurd h (Nat.not_lt_zero _)
  | f + 1, g + 1, st, d, r, hf, hg => by
    unfold runF
    cases h : step small st d r with
    | none => rfl
    | some x =>
      obtain ⟨st', d', a⟩ := x
      have h1 := step_far h
      simp only at h1 ⊢
      rw [runF_fuel f g st' d' (r.drop a) (by rw [List.length_drop]; omega) (by rw [List.length_drop]; omega)]
/-- How far a script's text goes on. -/
def run (small : List UInt8) (st d : Nat) (r : List UInt8) : Nat := runF small (r.length + 1) st d r
theorem run_none {small : List UInt8} {st d : Nat} {r : List UInt8} (h : step small st d r = none) : run small st d r = 0 := by
  unfold run runF
  rw [h]
theorem run_some {small : List UInt8} {st d st' d' a : Nat} {r : List UInt8} (h : step small st d r = some (st', d', a)) : run small st d r = a + run small st' d' (r.drop a) := by
  have h1 := step_far h
  simp only at h1
  unfold run
  rw [show runF small (r.length + 1) st d r = a + runF small r.length st' d' (r.drop a) by
    show (match step small st d r with | none => 0 | some (st', d', a) => a + runF small r.length st' d' (r.drop a)) = _
    rw [h]]
  rw [runF_fuel r.length ((r.drop a).length + 1) st' d' (r.drop a) (by rw [List.length_drop]; omega) (by omega)]
theorem run_form (small : List UInt8) : ∀ (n : Nat) (st d : Nat) (r : List UInt8), r.length ≤ n → run small st d r ≤ r.length ∧ (run small st d r = r.length ∨ endsB (r.drop (run small st d r)) small = true)
  | 0, st, d, r, h => by
    have : r.length = 0 := by omega
    rw [run_none (by unfold step; rw [if_pos this])]
    exact ⟨by omega, .inl this.symm⟩
  | n + 1, st, d, r, h => by
    cases hs : step small st d r with
    | none =>
      rw [run_none hs]
      refine ⟨Nat.zero_le _, ?_⟩
      by_cases h0 : r.length = 0
      · exact .inl h0.symm
      · refine .inr ?_
        rw [List.drop_zero]
        unfold step at hs
        rw [if_neg h0] at hs
        split at hs
        · rename_i hw; exact hw.2
        · split at hs
          · split at hs <;> cases hs
          · split at hs
            · cases hs
            · split at hs
              · cases hs
              · split at hs
                · cases hs
                · split at hs <;> cases hs
    | some x =>
      obtain ⟨st', d', a⟩ := x
      have h1 := step_far hs
      simp only at h1
      rw [run_some hs]
      obtain ⟨i1, i2⟩ := run_form small n st' d' (r.drop a) (by rw [List.length_drop]; omega)
      rw [List.length_drop] at i1 i2
      refine ⟨by omega, ?_⟩
      rcases i2 with i2 | i2
      · exact .inl (by omega)
      · refine .inr ?_
        rw [List.drop_drop] at i2
        exact i2

/-! ### Text -/
/-- How far the text goes on, in a mode. -/
def far (small : List UInt8) (mode : Nat) (r : List UInt8) : Nat := if mode = 4 then r.length else if mode = 3 then run small 0 0 r else stop small r
def textOf (mode : Nat) (t : List UInt8) : List UInt8 := if mode = 1 then Ent.decode false t else t
theorem far_form (small : List UInt8) (mode : Nat) (r : List UInt8) : far small mode r ≤ r.length ∧ (far small mode r = r.length ∨ mode ≠ 4 ∧ endsB (r.drop (far small mode r)) small = true) := by
  unfold far
  by_cases h4 : mode = 4
  · rw [if_pos h4]
    exact ⟨Nat.le_refl _, .inl rfl⟩
  rw [if_neg h4]
  by_cases h3 : mode = 3
  · rw [if_pos h3]
    obtain ⟨h1, h2⟩ := run_form small r.length 0 0 r (Nat.le_refl _)
    exact ⟨h1, h2.imp id fun h => ⟨h4, h⟩⟩
  · rw [if_neg h3]
    obtain ⟨h1, h2⟩ := stop_form small r
    exact ⟨h1, h2.imp id fun h => ⟨h4, h⟩⟩
/-- May it be read at all. -/
def okB (l : List UInt8) (i : Int) (mode : Nat) : Bool := decide (0 ≤ i) && (decide (i ≤ l.length) && (decide (1 ≤ mode) && decide (mode ≤ 4)))
end Go.Proofs.YtgldgdopabmefaaDoor.Raw
