/- Plain Lean: what package raw says, over lists of bytes: ends of a name, where the text of a script ends, what the text is. Nothing of a program stands here. Walks over the reference of layer 8: ends of a name. -/
import Derived.Test.YtgldgdopabmefaaGreatDoorRefLower
import Derived.Test.YtgldgdopabmefaaGreatDoorRefHex
import Derived.Test.YtgldgdopabmefaaGreatDoorEnt
import Derived.Deep.LoopGhost
import Derived.IntWalk
namespace Go.Proofs.YtgldgdopabmefaaGreatDoor.Raw
open Go.Lib
set_option maxRecDepth 100000
set_option linter.unusedVariables false

/-! ### Ends of a name -/
/-- A byte that ends a tag's name stands first. -/
def closedB (r : List UInt8) : Bool := decide (0 < r.length) && (spaceN (U8.B r 0) || (U8.B r 0 == 47 || U8.B r 0 == 62))
/-- A text in small letters stands first, in letters of any size. -/
def wordB (r w : List UInt8) : Bool := decide (w.length ≤ r.length) && decide (lowL (r.take w.length) = w)
/-- An end of a name stands first; small: its signs and the name in small letters. -/
def endsB (r small : List UInt8) : Bool := wordB r small && closedB (r.drop small.length)
def smallN (name : List UInt8) : List UInt8 := [60, 47] ++ lowL name
theorem small_low (name : List UInt8) : smallN (lowL name) = smallN name := by unfold smallN; rw [lowL_low]
theorem closed_nil {r : List UInt8} (h : closedB r = true) : 0 < r.length := by
  unfold closedB at h
  simp only [Bool.and_eq_true, decide_eq_true_eq] at h
  exact h.1
theorem word_len {r w : List UInt8} (h : wordB r w = true) : w.length ≤ r.length := by
  unfold wordB at h
  simp only [Bool.and_eq_true, decide_eq_true_eq] at h
  exact h.1
theorem word_low {r w : List UInt8} (h : wordB r w = true) : lowL (r.take w.length) = w := by
  unfold wordB at h
  simp only [Bool.and_eq_true, decide_eq_true_eq] at h
  exact h.2
theorem ends_len {r small : List UInt8} (h : endsB r small = true) : small.length < r.length := by
  unfold endsB at h
  simp only [Bool.and_eq_true] at h
  have h1 := word_len h.1
  have h2 := closed_nil h.2
  rw [List.length_drop] at h2
  omega
theorem ends_low {r small : List UInt8} (h : endsB r small = true) : lowL (r.take small.length) = small := by
  unfold endsB at h
  simp only [Bool.and_eq_true] at h
  exact word_low h.1
theorem ends_nil {small : List UInt8} : endsB [] small = false := by
  cases h : endsB [] small with
  | false => rfl
  | true => have := ends_len h; simp at this

/-! ### The first end -/
/-- How far it is to the first end, or to the end of all. -/
def stop (small : List UInt8) : List UInt8 → Nat
  | [] => 0
  | c :: t => if endsB (c :: t) small = true then 0 else stop small t + 1
theorem stop_yes {small r : List UInt8} (h : endsB r small = true) : stop small r = 0 := by
  cases r with
  | nil => rfl
  | cons c t => unfold stop; rw [if_pos h]
theorem stop_no {small r : List UInt8} (h : endsB r small = false) (hr : 0 < r.length) : stop small r = stop small (r.drop 1) + 1 := by
  cases r with
  | nil => simp at hr
  | cons c t =>
    show (if endsB (c :: t) small = true then 0 else stop small t + 1) = _
    rw [if_neg (by rw [h]; decide)]
    rfl
theorem stop_form (small : List UInt8) : ∀ r : List UInt8, stop small r ≤ r.length ∧ (stop small r = r.length ∨ endsB (r.drop (stop small r)) small = true)
  | [] => ⟨Nat.le_refl _, .inl rfl⟩
  | c :: t => by
    by_cases h : endsB (c :: t) small = true
    · rw [stop_yes h]
      exact ⟨Nat.zero_le _, .inr h⟩
    · rw [stop_no (by simpa using h) (by simp)]
      obtain ⟨h1, h2⟩ := stop_form small t
      refine ⟨by simpa using h1, ?_⟩
      rcases h2 with h2 | h2
      · exact .inl (by simpa using h2)
      · exact .inr h2

/-! ### Scripts -/
def sOpen : List UInt8 := [60, 33, 45, 45]
def sScript : List UInt8 := [60, 115, 99, 114, 105, 112, 116]
def sEnd : List UInt8 := [60, 47, 115, 99, 114, 105, 112, 116]
/-- One step: the state behind it, the dashes, how far; none: it ends here. -/
def step (small : List UInt8) (st d : Nat) (r : List UInt8) : Option (Nat × Nat × Nat) :=
  if r.length = 0 then none
  else if st < 2 ∧ endsB r small = true then none
  else if st = 0 then (if wordB r sOpen = true then some (1, 2, 4) else some (0, d, 1))
  else if U8.B r 0 = 45 then some (st, d + 1, 1)
  else if U8.B r 0 = 62 ∧ 2 ≤ d then some (0, 0, 1)
  else if st = 1 ∧ wordB r sScript = true ∧ closedB (r.drop 7) = true then some (2, 0, 8)
  else if st = 2 ∧ endsB r sEnd = true then some (1, 0, 9)
  else some (st, 0, 1)
def runF (small : List UInt8) : Nat → Nat → Nat → List UInt8 → Nat
  | 0, _, _, _ => 0
  | f + 1, st, d, r => match step small st d r with
    | none => 0
    | some (st', d', a) => a + runF small f st' d' (r.drop a)
theorem step_far {small : List UInt8} {st d : Nat} {r : List UInt8} {x : Nat × Nat × Nat} (h : step small st d r = some x) : 1 ≤ x.2.2 ∧ x.2.2 ≤ r.length := by
  unfold step at h
  by_cases h0 : r.length = 0
  · rw [if_pos h0] at h; cases h
  rw [if_neg h0] at h
  split at h
  · cases h
  split at h
  · split at h
    · rename_i hw
      have := word_len hw
      cases h
      exact ⟨by decide, this⟩
    · cases h
      exact ⟨by show 1 ≤ 1; omega, by show 1 ≤ _; omega⟩
  split at h
  · cases h
    exact ⟨by show 1 ≤ 1; omega, by show 1 ≤ _; omega⟩
  split at h
  · cases h
    exact ⟨by decide, by show 1 ≤ _; omega⟩
  split at h
  · rename_i hw
    have h2 := closed_nil hw.2.2
    rw [List.length_drop] at h2
    cases h
    exact ⟨by decide, by show 8 ≤ _; omega⟩
  split at h
  · rename_i hw
    have h2 := ends_len hw.2
    cases h
    exact ⟨by decide, h2⟩
  · cases h
    exact ⟨by show 1 ≤ 1; omega, by show 1 ≤ _; omega⟩
theorem runF_fuel {small : List UInt8} : ∀ (f g : Nat) (st d : Nat) (r : List UInt8), r.length < f → r.length < g → runF small f st d r = runF small g st d r
  | 0, _, _, _, r, h, _ => absurd h (Nat.not_lt_zero _)
  | _ + 1, 0, _, _, r, _, h => absurd h (Nat.not_lt_zero _)
  | f + 1, g + 1, st, d, r, hf, hg => by
    unfold runF
    cases h : step small st d r with
    | none => rfl
    | some x =>
      obtain ⟨st', d', a⟩ := x
      have h1 := step_far h
      simp only at h1 ⊢
      rw [runF_fuel f g st' d' (r.drop a) (by rw [List.length_drop]; omega) (by rw [List.length_drop]; omega)]
/-- How far a script's text goes on. -/
def run (small : List UInt8) (st d : Nat) (r : List UInt8) : Nat := runF small (r.length + 1) st d r
theorem run_none {small : List UInt8} {st d : Nat} {r : List UInt8} (h : step small st d r = none) : run small st d r = 0 := by
  unfold run runF
  rw [h]
theorem run_some {small : List UInt8} {st d st' d' a : Nat} {r : List UInt8} (h : step small st d r = some (st', d', a)) : run small st d r = a + run small st' d' (r.drop a) := by
  have h1 := step_far h
  simp only at h1
  unfold run
  rw [show runF small (r.length + 1) st d r = a + runF small r.length st' d' (r.drop a) by
    show (match step small st d r with | none => 0 | some (st', d', a) => a + runF small r.length st' d' (r.drop a)) = _
    rw [h]]
  rw [runF_fuel r.length ((r.drop a).length + 1) st' d' (r.drop a) (by rw [List.length_drop]; omega) (by omega)]
theorem run_form (small : List UInt8) : ∀ (n : Nat) (st d : Nat) (r : List UInt8), r.length ≤ n → run small st d r ≤ r.length ∧ (run small st d r = r.length ∨ endsB (r.drop (run small st d r)) small = true)
  | 0, st, d, r, h => by
    have : r.length = 0 := by omega
    rw [run_none (by unfold step; rw [if_pos this])]
    exact ⟨by omega, .inl this.symm⟩
  | n + 1, st, d, r, h => by
    cases hs : step small st d r with
    | none =>
      rw [run_none hs]
      refine ⟨Nat.zero_le _, ?_⟩
      by_cases h0 : r.length = 0
      · exact .inl h0.symm
      · refine .inr ?_
        rw [List.drop_zero]
        unfold step at hs
        rw [if_neg h0] at hs
        split at hs
        · rename_i hw; exact hw.2
        · split at hs
          · split at hs <;> cases hs
          · split at hs
            · cases hs
            · split at hs
              · cases hs
              · split at hs
                · cases hs
                · split at hs <;> cases hs
    | some x =>
      obtain ⟨st', d', a⟩ := x
      have h1 := step_far hs
      simp only at h1
      rw [run_some hs]
      obtain ⟨i1, i2⟩ := run_form small n st' d' (r.drop a) (by rw [List.length_drop]; omega)
      rw [List.length_drop] at i1 i2
      refine ⟨by omega, ?_⟩
      rcases i2 with i2 | i2
      · exact .inl (by omega)
      · refine .inr ?_
        rw [List.drop_drop] at i2
        exact i2

/-! ### Text -/
/-- How far the text goes on, in a mode. -/
def far (small : List UInt8) (mode : Nat) (r : List UInt8) : Nat := if mode = 4 then r.length else if mode = 3 then run small 0 0 r else stop small r
def textOf (mode : Nat) (t : List UInt8) : List UInt8 := if mode = 1 then Ent.decode false t else t
theorem far_form (small : List UInt8) (mode : Nat) (r : List UInt8) : far small mode r ≤ r.length ∧ (far small mode r = r.length ∨ mode ≠ 4 ∧ endsB (r.drop (far small mode r)) small = true) := by
  unfold far
  by_cases h4 : mode = 4
  · rw [if_pos h4]
    exact ⟨Nat.le_refl _, .inl rfl⟩
  rw [if_neg h4]
  by_cases h3 : mode = 3
  · rw [if_pos h3]
    obtain ⟨h1, h2⟩ := run_form small r.length 0 0 r (Nat.le_refl _)
    exact ⟨h1, h2.imp id fun h => ⟨h4, h⟩⟩
  · rw [if_neg h3]
    obtain ⟨h1, h2⟩ := stop_form small r
    exact ⟨h1, h2.imp id fun h => ⟨h4, h⟩⟩
/-- May it be read at all. -/
def okB (l : List UInt8) (i : Int) (mode : Nat) : Bool := decide (0 ≤ i) && (decide (i ≤ l.length) && (decide (1 ≤ mode) && decide (mode ≤ 4)))
end Go.Proofs.YtgldgdopabmefaaGreatDoor.Raw
namespace Go.Proofs.YtgldgdopabmefaaGreatDoor
open Go.RowKit Go.Lib
set_option maxRecDepth 100000
set_option linter.unusedVariables false

theorem raw_mid (s : ByteArray) (a b : Nat) : (s.extract a b).data.toList = (s.data.toList.drop a).take (b - a) := by
  rw [← ByteArray.toList_eq, extract_toList]
theorem raw_at (s : ByteArray) (k : Nat) (h : k < s.size) : U8.B (s.data.toList.drop k) 0 = (s[k]'h).toNat := by
  rw [U8.B_drop, Nat.add_zero, get_of s k h]
theorem closed_at (s : ByteArray) (k : Nat) : Raw.closedB (s.data.toList.drop k) = (decide (k < s.size) && (spaceN (U8.B s.data.toList k) || (U8.B s.data.toList k == 47 || U8.B s.data.toList k == 62))) := by
  unfold Raw.closedB
  rw [U8.B_drop, Nat.add_zero, List.length_drop, size_list]
  congr 1
  rw [Bool.eq_iff_iff]
  simp
  omega
set_option maxHeartbeats 1000000 in
theorem rclosed_any (s : ByteArray) (k : Nat) (w : World) (hs : s.size ≤ 1000000) (hk : k ≤ 4000000) :
    Calls Tryz.prog 66 #[.string s, .int .i64 k] w fun e w' => e = .returned (.bool (Raw.closedB (s.data.toList.drop k))) ∧ w = w' := by
  rw [closed_at]
  have q1 : ((k : Int)).toNat = k := by omega
  have q2 : (0 : Int) ≤ (k : Int) := by omega
  by_cases hlt : k < s.size
  · have d1 : decide (k < s.size) = true := decide_eq_true hlt
    have hltI : (k : Int) < (s.size : Int) := by omega
    have hg := get_of s k hlt
    obtain ⟨c, hc⟩ : ∃ c, s[k]'hlt = c := ⟨_, rfl⟩
    rw [hc] at hg
    have hc256 := c.toNat_lt
    rw [d1, Bool.true_and, ← hg]
    have HS := fun W => rspace_any c.toNat (by omega) W
    cases h1 : spaceN c.toNat with
    | true =>
      rw [h1] at HS
      rw [Bool.true_or]
      have HS := hid HS
      clear hg h1
      go_enter Tryz.func66, Tryz.ntmps66
      go_wp2_with fail
      refine (HS.out _).mono ?_
      rintro e w1 ⟨rfl, rfl⟩
      go_wp2
      go_ret
      exact ⟨rfl, rfl⟩
    | false =>
      rw [h1] at HS
      rw [Bool.false_or]
      have HS := hid HS
      by_cases h47 : c.toNat = 47
      · have t1 : (((c.toNat : Nat) : Int) == 47) = true := by rw [h47]; rfl
        rw [show (c.toNat == 47) = true by simp [h47], Bool.true_or]
        clear hg h1 h47
        go_enter Tryz.func66, Tryz.ntmps66
        go_wp2_with fail
        refine (HS.out _).mono ?_
        rintro e w1 ⟨rfl, rfl⟩
        go_wp2
        go_ret
        exact ⟨rfl, rfl⟩
      · have t1 : (((c.toNat : Nat) : Int) == 47) = false := by simp; omega
        rw [show (c.toNat == 47) = false by simp [h47], Bool.false_or]
        have t2 : (((c.toNat : Nat) : Int) == 62) = (c.toNat == 62) := by
          rw [Bool.eq_iff_iff]
          simp
          omega
        generalize (c.toNat == 62) = z at *
        clear hg h1 h47
        go_enter Tryz.func66, Tryz.ntmps66
        go_wp2_with fail
        refine (HS.out _).mono ?_
        rintro e w1 ⟨rfl, rfl⟩
        go_wp2
        go_ret
        exact ⟨rfl, rfl⟩
  · have d1 : decide (k < s.size) = false := decide_eq_false hlt
    have hltI : ¬ (k : Int) < (s.size : Int) := by omega
    rw [d1, Bool.false_and]
    go_enter Tryz.func66, Tryz.ntmps66
    go_wp2
    go_ret
    exact ⟨rfl, rfl⟩
set_option maxHeartbeats 1000000 in
theorem rword_any (s p : ByteArray) (k : Nat) (w : World) (hs : s.size ≤ 1000000) (hps : p.size ≤ 1000000) (hk : k ≤ s.size) :
    Calls Tryz.prog 65 #[.string s, .int .i64 k, .string p] w fun e w' => e = .returned (.bool (Raw.wordB (s.data.toList.drop k) p.data.toList)) ∧ Below w.heap.size w w' := by
  have hsl := size_list s
  have hpl := size_list p
  unfold Raw.wordB
  by_cases hroom : k + p.size ≤ s.size
  · have d1 : decide ((p.size : Int) ≤ (s.size : Int) - (k : Int)) = true := decide_eq_true (by omega)
    have q1 : ((k : Int)).toNat = k := by omega
    have q2 : (0 : Int) ≤ (k : Int) := by omega
    have q3 : (k : Int) ≤ (k : Int) + (p.size : Int) := by omega
    have q4 : (k : Int) + (p.size : Int) ≤ (s.size : Int) := by omega
    have q5 : ((k : Int) + (p.size : Int)).toNat = k + p.size := by omega
    have q6 : (0 : Int) ≤ (k : Int) + (p.size : Int) := by omega
    have q7 : k ≤ k + p.size := by omega
    have hm := raw_mid s k (k + p.size)
    rw [show k + p.size - k = p.size by omega] at hm
    have L := fun W => rlower_any (s.extract k (k + p.size)) W (by rw [← size_list, hm, List.length_take]; omega)
    rw [hm] at L
    obtain ⟨X, hX⟩ : ∃ X : ByteArray, (⟨(lowL ((s.data.toList.drop k).take p.size)).toArray⟩ : ByteArray) = X := ⟨_, rfl⟩
    rw [hX] at L
    have hR : (X.toList == p.toList) = (decide (p.data.toList.length ≤ (s.data.toList.drop k).length) && decide (lowL ((s.data.toList.drop k).take p.data.toList.length) = p.data.toList)) := by
      rw [decide_eq_true (show p.data.toList.length ≤ (s.data.toList.drop k).length by rw [List.length_drop]; omega), Bool.true_and, ByteArray.toList_eq, ByteArray.toList_eq, ← hX, hpl]
      rw [Bool.eq_iff_iff]
      simp
    rw [← hR]
    have L := hid L
    clear hsl hpl hm hX hR
    go_enter Tryz.func65, Tryz.ntmps65
    go_wp2_with fail
    refine (L.out _).mono ?_
    rintro e w1 ⟨rfl, b1⟩
    go_wp2
    go_ret
    exact ⟨rfl, b1⟩
  · have d1 : decide ((p.size : Int) ≤ (s.size : Int) - (k : Int)) = false := decide_eq_false (by omega)
    rw [decide_eq_false (show ¬ p.data.toList.length ≤ (s.data.toList.drop k).length by rw [List.length_drop]; omega), Bool.false_and]
    clear hsl hpl
    go_enter Tryz.func65, Tryz.ntmps65
    go_wp2
    go_ret
    exact ⟨rfl, Below.refl _ _⟩
set_option maxHeartbeats 1000000 in
theorem rends_any (s name : ByteArray) (k : Nat) (w : World) (hs : s.size ≤ 1000000) (hps : name.size ≤ 900000) (hk : k ≤ s.size) :
    Calls Tryz.prog 35 #[.string s, .int .i64 k, .string name] w fun e w' => e = .returned (.bool (Raw.endsB (s.data.toList.drop k) (Raw.smallN name.data.toList))) ∧ Below w.heap.size w w' := by
  have hnl := size_list name
  have L := fun W => rlower_any name W (by omega)
  obtain ⟨X, hX⟩ : ∃ X : ByteArray, (⟨(lowL name.data.toList).toArray⟩ : ByteArray) = X := ⟨_, rfl⟩
  rw [hX] at L
  have hXs : X.size = name.size := by rw [← hX, size_eq]; show (lowL name.data.toList).length = _; rw [lowL_len, hnl]
  obtain ⟨P, hP⟩ : ∃ P : ByteArray, (⟨#[60, 47]⟩ : ByteArray) ++ X = P := ⟨_, rfl⟩
  have hPl : P.data.toList = Raw.smallN name.data.toList := by
    rw [← hP, ByteArray.data_append, Array.toList_append, ← hX]
    rfl
  have hPs : P.size = 2 + name.size := by rw [← hP, ByteArray.size_append, hXs]; rfl
  have W1 := fun W => rword_any s P k W hs (by omega) hk
  have C1 := fun W => rclosed_any s (k + P.size) W hs (by omega)
  unfold Raw.endsB
  rw [hPl] at W1
  have hlen : (Raw.smallN name.data.toList).length = P.size := by rw [← hPl]; exact size_list P
  rw [hlen, List.drop_drop]
  rw [show ((k + P.size : Nat) : Int) = (k : Int) + (P.size : Int) by omega] at C1
  have m1 : ¬ 9223372036854775807 < 2 + X.size := by omega
  have L := hid L
  have W1 := hid W1
  have C1 := hid C1
  have HP := hid hP
  have hPb : P.size ≤ 900002 := by omega
  clear hPs hXs
  cases hw : Raw.wordB (s.data.toList.drop k) (Raw.smallN name.data.toList) with
  | true =>
    rw [hw] at W1
    have W1 := hid W1.out
    rw [Bool.true_and]
    generalize Raw.closedB (s.data.toList.drop (k + P.size)) = z at *
    clear hnl hX hP hPl hlen hw
    go_enter Tryz.func35, Tryz.ntmps35
    go_wp2_with fail
    refine (L.out _).mono ?_
    rintro e w1 ⟨rfl, b1⟩
    go_wp2_with fail
    rw [HP.out]
    refine (W1.out _).mono ?_
    rintro e w2 ⟨rfl, b2⟩
    have B2 := hid (b1.trans (b2.mono b1.size))
    clear b1 b2
    go_wp2_with fail
    refine (C1.out _).mono ?_
    rintro e w3 ⟨rfl, rfl⟩
    go_wp2
    go_ret
    exact ⟨rfl, B2.out⟩
  | false =>
    rw [hw] at W1
    have W1 := hid W1.out
    rw [Bool.false_and]
    clear hnl hX hP hPl hlen hw C1
    go_enter Tryz.func35, Tryz.ntmps35
    go_wp2_with fail
    refine (L.out _).mono ?_
    rintro e w1 ⟨rfl, b1⟩
    go_wp2_with fail
    rw [HP.out]
    refine (W1.out _).mono ?_
    rintro e w2 ⟨rfl, b2⟩
    have B2 := hid (b1.trans (b2.mono b1.size))
    clear b1 b2
    go_wp2
    go_ret
    exact ⟨rfl, B2.out⟩
end Go.Proofs.YtgldgdopabmefaaGreatDoor
