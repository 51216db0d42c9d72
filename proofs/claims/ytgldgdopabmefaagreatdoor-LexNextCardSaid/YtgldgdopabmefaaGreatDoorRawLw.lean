/- Plain Lean: what the program of layer 8 asks byte by byte, and how its scripts go on. Nothing of a program stands here. -/
import Derived.Test.YtgldgdopabmefaaGreatDoorRefRaw
namespace Go.Proofs.YtgldgdopabmefaaGreatDoor.Raw
open Go.Lib
set_option maxRecDepth 100000
set_option linter.unusedVariables false

theorem low_snoc (l : List UInt8) (k : Nat) (c : UInt8) (h : l[k]? = some c) : lowL (l.take (k + 1)) = lowL (l.take k) ++ [lowC c] := by
  rw [List.take_add_one, h]
  simp [lowL]
theorem word_go {r w : List UInt8} {k : Nat} {c d : UInt8} (h : lowL (r.take k) = w.take k) (hc : r[k]? = some c) (hd : w[k]? = some d) (he : lowC c = d) : lowL (r.take (k + 1)) = w.take (k + 1) := by
  rw [low_snoc _ _ _ hc, h, List.take_add_one (l := w), hd, he]
  rfl
theorem word_bad {r w : List UInt8} {k : Nat} {c d : UInt8} (hc : r[k]? = some c) (hd : w[k]? = some d) (he : lowC c ≠ d) : wordB r w = false := by
  cases hw : wordB r w with
  | false => rfl
  | true =>
    exfalso
    apply he
    have h := word_low hw
    have hk : k < w.length := (List.getElem?_eq_some_iff.1 hd).1
    have h2 : (lowL (r.take w.length))[k]? = w[k]? := by rw [h]
    rw [hd] at h2
    simpa [lowL, List.getElem?_take_of_lt hk, hc] using h2
theorem word_yes {r w : List UInt8} (hl : w.length ≤ r.length) (h : lowL (r.take w.length) = w.take w.length) : wordB r w = true := by
  unfold wordB
  rw [h, List.take_length]
  simp [hl]
theorem ends_short {r small : List UInt8} (h : r.length ≤ small.length) : endsB r small = false := by
  cases he : endsB r small with
  | false => rfl
  | true => have := ends_len he; omega
theorem ends_bad {r small : List UInt8} (h : wordB r small = false) : endsB r small = false := by unfold endsB; rw [h, Bool.false_and]
theorem ends_yes {r small : List UInt8} (hl : small.length < r.length) (h : wordB r small = true) : endsB r small = (spaceN (U8.B r small.length) || (U8.B r small.length == 47 || U8.B r small.length == 62)) := by
  unfold endsB closedB
  rw [h, Bool.true_and, U8.B_drop, Nat.add_zero, decide_eq_true (by rw [List.length_drop]; omega), Bool.true_and]

/-! ### Signs that are no letters -/
theorem lowC_plain {x y : UInt8} (h : lowC x = y) (hy : y.toNat < 97 ∨ 122 < y.toNat) : x = y := by
  have h2 := lowC_num x
  rw [h] at h2
  split at h2
  · omega
  · exact UInt8.toNat_inj.1 h2.symm
theorem low_plain : ∀ {u t : List UInt8}, lowL u = t → (∀ y ∈ t, y.toNat < 97 ∨ 122 < y.toNat) → u = t
  | [], [], _, _ => rfl
  | [], b :: t, h, _ => by simp [lowL] at h
  | a :: u, [], h, _ => by simp [lowL] at h
  | a :: u, b :: t, h, hy => by
    have h1 : lowC a = b ∧ lowL u = t := by simpa [lowL] using h
    rw [lowC_plain h1.1 (hy b (by simp)), low_plain h1.2 fun y hm => hy y (by simp [hm])]
theorem open_pre (r : List UInt8) : wordB r sOpen = hasPrefix r sOpen := by
  rw [Bool.eq_iff_iff]
  constructor
  · intro h
    have h1 := low_plain (word_low h) (by decide)
    unfold hasPrefix
    rw [List.isPrefixOf_iff_prefix, List.prefix_iff_eq_take]
    exact h1.symm
  · intro h
    unfold hasPrefix at h
    obtain ⟨t, rfl⟩ := List.isPrefixOf_iff_prefix.1 h
    unfold wordB
    rw [List.take_left]
    rw [decide_eq_true (by simp)]
    decide
theorem pre_one {r : List UInt8} {c : UInt8} (hr : 0 < r.length) : hasPrefix r [c] = true ↔ U8.B r 0 = c.toNat := by
  cases r with
  | nil => simp at hr
  | cons a t =>
    rw [U8.B_eq (c := a) rfl]
    show ([c].isPrefixOf (a :: t) = true) ↔ _
    simp only [List.isPrefixOf, Bool.and_true, beq_iff_eq]
    exact ⟨fun h => by rw [h], fun h => UInt8.toNat_inj.1 h.symm⟩
/-- An end that begins with `<` begins with one. -/
theorem ends_less {r t : List UInt8} (h : endsB r (60 :: t) = true) : U8.B r 0 = 60 := by
  have h1 := ends_low h
  cases r with
  | nil => simp [lowL] at h1
  | cons a s =>
    have h2 : lowC a = 60 := by
      have h3 := congrArg (fun x : List UInt8 => x.head?) h1
      simpa [lowL] using h3
    rw [U8.B_eq (c := a) rfl, lowC_plain h2 (by decide)]
    rfl
theorem cnt_ends {r sm : List UInt8} (h : endsB r sm = true) (hs : (45 : UInt8) ∉ sm) : (r.take (sm.length + 1)).count 45 = 0 := by
  rw [List.count_eq_zero]
  intro hm
  have hl := ends_len h
  rw [List.take_add_one, List.getElem?_eq_getElem hl] at hm
  rcases List.mem_append.1 hm with hm | hm
  · apply hs
    rw [← ends_low h]
    exact List.mem_map.2 ⟨45, hm, by decide⟩
  · have he : (45 : UInt8) = r[sm.length] := List.mem_singleton.1 hm
    have hb : U8.B r sm.length = 45 := by rw [U8.B_eq (List.getElem?_eq_getElem hl), ← he]; rfl
    unfold endsB closedB at h
    simp only [Bool.and_eq_true] at h
    have h2 := h.2.2
    rw [U8.B_drop, Nat.add_zero, hb] at h2
    exact absurd h2 (by decide)

/-! ### How a script goes on -/
/-- Where the state changes: the new one, and how long its sign is. -/
def turnP (st d : Nat) (r : List UInt8) : Nat × Nat :=
  if st = 0 then (if hasPrefix r sOpen = true then (1, 4) else (0, 0))
  else if 2 ≤ d ∧ hasPrefix r [62] = true then (0, 1)
  else if st = 1 ∧ endsB r sScript = true then (2, 8)
  else if st = 2 ∧ endsB r sEnd = true then (1, 9)
  else (st, 0)
theorem turn_le (st d : Nat) (r : List UInt8) (hst : st ≤ 2) : (turnP st d r).1 ≤ 2 ∧ (turnP st d r).2 ≤ r.length := by
  unfold turnP
  split
  · split
    · rename_i h
      have h1 := List.isPrefixOf_iff_prefix.1 h
      exact ⟨by decide, h1.length_le⟩
    · exact ⟨by decide, Nat.zero_le _⟩
  split
  · rename_i h
    have h1 := List.isPrefixOf_iff_prefix.1 h.2
    exact ⟨by decide, h1.length_le⟩
  split
  · rename_i h
    have h1 := ends_len h.2
    exact ⟨by decide, h1⟩
  split
  · rename_i h
    have h1 := ends_len h.2
    exact ⟨by decide, h1⟩
  · exact ⟨hst, Nat.zero_le _⟩
theorem turn_zero {st d : Nat} {r : List UInt8} (h : (turnP st d r).1 = st) : (turnP st d r).2 = 0 := by
  unfold turnP at h ⊢
  split at h
  · split at h
    · rename_i h0 h1; simp at h; omega
    · rename_i h0 h1; rw [if_pos h0, if_neg h1]
  split at h
  · simp at h; omega
  split at h
  · rename_i h1; simp at h; omega
  split at h
  · rename_i h1; simp at h; omega
  · rename_i h0 h1 h2 h3; rw [if_neg h0, if_neg h1, if_neg h2, if_neg h3]
theorem turn_pos {st d : Nat} {r : List UInt8} (h : (turnP st d r).1 ≠ st) : 1 ≤ (turnP st d r).2 := by
  unfold turnP at h ⊢
  split at h
  · split at h
    · rename_i h0 h1; rw [if_pos h0, if_pos h1]; decide
    · rename_i h0 h1; exact absurd h0.symm h
  split at h
  · rename_i h0 h1; rw [if_neg h0, if_pos h1]; decide
  split at h
  · rename_i h0 h1 h2; rw [if_neg h0, if_neg h1, if_pos h2]; decide
  split at h
  · rename_i h0 h1 h2 h3; rw [if_neg h0, if_neg h1, if_neg h2, if_pos h3]; decide
  · exact absurd rfl h
theorem cnt_open {r : List UInt8} (h : hasPrefix r sOpen = true) : (r.take 4).count 45 = 2 := by
  obtain ⟨t, rfl⟩ := List.isPrefixOf_iff_prefix.1 h
  rfl
theorem turn_step {small r : List UInt8} {st d d0 : Nat} (hr : 0 < r.length) (hd : st ≠ 0 → d0 = d) (he : st = 2 ∨ endsB r small = false) (hne : (turnP st d r).1 ≠ st) :
    ∃ d1, step small st d0 r = some ((turnP st d r).1, d1, (turnP st d r).2) ∧ ((turnP st d r).1 ≠ 0 → d1 = (r.take (turnP st d r).2).count 45) := by
  have g1 : ¬ (st < 2 ∧ endsB r small = true) := by rcases he with h | h; · omega
                                                    · rw [h]; simp
  by_cases h0 : st = 0
  · subst h0
    by_cases hp : hasPrefix r sOpen = true
    · have e : turnP 0 d r = (1, 4) := by unfold turnP; rw [if_pos rfl, if_pos hp]
      rw [e]
      refine ⟨2, ?_, fun _ => (cnt_open hp).symm⟩
      unfold step
      rw [if_neg (by omega), if_neg g1, if_pos rfl, open_pre, if_pos hp]
    · exact absurd (by unfold turnP; rw [if_pos rfl, if_neg hp]) hne
  obtain rfl := hd h0
  by_cases hg : 2 ≤ d0 ∧ hasPrefix r [62] = true
  · have e : turnP st d0 r = (0, 1) := by unfold turnP; rw [if_neg h0, if_pos hg]
    have hb := (pre_one hr).1 hg.2
    rw [show ((62 : UInt8)).toNat = 62 from rfl] at hb
    rw [e]
    refine ⟨0, ?_, fun h => absurd rfl h⟩
    unfold step
    rw [if_neg (by omega), if_neg g1, if_neg h0, if_neg (by omega), if_pos ⟨hb, hg.1⟩]
  have e62 : ¬ (U8.B r 0 = 62 ∧ 2 ≤ d0) := fun h => hg ⟨h.2, (pre_one hr).2 h.1⟩
  by_cases h1 : st = 1 ∧ endsB r sScript = true
  · have e : turnP st d0 r = (2, 8) := by unfold turnP; rw [if_neg h0, if_neg hg, if_pos h1]
    have hb := ends_less (t := [115, 99, 114, 105, 112, 116]) h1.2
    have hw : wordB r sScript = true ∧ closedB (r.drop 7) = true := by
      have h := h1.2
      unfold endsB at h
      exact Bool.and_eq_true_iff.1 h
    rw [e]
    refine ⟨0, ?_, fun _ => (cnt_ends h1.2 (by decide)).symm⟩
    unfold step
    rw [if_neg (by omega), if_neg g1, if_neg h0, if_neg (by omega), if_neg e62, if_pos ⟨h1.1, hw⟩]
  by_cases h2 : st = 2 ∧ endsB r sEnd = true
  · have e : turnP st d0 r = (1, 9) := by unfold turnP; rw [if_neg h0, if_neg hg, if_neg h1, if_pos h2]
    have hb := ends_less (t := [47, 115, 99, 114, 105, 112, 116]) h2.2
    rw [e]
    refine ⟨0, ?_, fun _ => (cnt_ends h2.2 (by decide)).symm⟩
    unfold step
    rw [if_neg (by omega), if_neg g1, if_neg h0, if_neg (by omega), if_neg e62, if_neg (by omega), if_pos h2]
  · exact absurd (by unfold turnP; rw [if_neg h0, if_neg hg, if_neg h1, if_neg h2]) hne
theorem turn_stay {small r : List UInt8} {st d d0 : Nat} (hr : 0 < r.length) (hst : st ≤ 2) (hd : st ≠ 0 → d0 = d) (he : st = 2 ∨ endsB r small = false) (heq : (turnP st d r).1 = st) :
    ∃ d1, step small st d0 r = some (st, d1, 1) ∧ (st ≠ 0 → d1 = if U8.B r 0 = 45 then d + 1 else 0) := by
  have g1 : ¬ (st < 2 ∧ endsB r small = true) := by rcases he with h | h; · omega
                                                    · rw [h]; simp
  by_cases h0 : st = 0
  · subst h0
    have hp : ¬ hasPrefix r sOpen = true := by
      intro hp
      unfold turnP at heq
      rw [if_pos rfl, if_pos hp] at heq
      simp at heq
    refine ⟨d0, ?_, fun h => absurd rfl h⟩
    unfold step
    rw [if_neg (by omega), if_neg g1, if_pos rfl, open_pre, if_neg hp]
  obtain rfl := hd h0
  by_cases hb : U8.B r 0 = 45
  · refine ⟨d0 + 1, ?_, fun _ => by rw [if_pos hb]⟩
    unfold step
    rw [if_neg (by omega), if_neg g1, if_neg h0, if_pos hb]
  have hg : ¬ (2 ≤ d0 ∧ hasPrefix r [62] = true) := by
    intro hg
    unfold turnP at heq
    rw [if_neg h0, if_pos hg] at heq
    simp at heq
    omega
  have e62 : ¬ (U8.B r 0 = 62 ∧ 2 ≤ d0) := fun h => hg ⟨h.2, (pre_one hr).2 h.1⟩
  have h1 : ¬ (st = 1 ∧ endsB r sScript = true) := by
    intro h1
    unfold turnP at heq
    rw [if_neg h0, if_neg hg, if_pos h1] at heq
    simp at heq
    omega
  have h2 : ¬ (st = 2 ∧ endsB r sEnd = true) := by
    intro h2
    unfold turnP at heq
    rw [if_neg h0, if_neg hg, if_neg h1, if_pos h2] at heq
    simp at heq
    omega
  refine ⟨0, ?_, fun _ => by rw [if_neg hb]⟩
  unfold step
  rw [if_neg (by omega), if_neg g1, if_neg h0, if_neg hb, if_neg e62, if_neg (by
    intro h
    apply h1
    refine ⟨h.1, ?_⟩
    unfold endsB
    rw [h.2.1, Bool.true_and]
    exact h.2.2), if_neg h2]
/-- What is still to go, told of the whole: outside of comments the dashes do not matter. -/
def ScJ (l small : List UInt8) (T k st d : Nat) : Prop := ∃ d0, (st ≠ 0 → d0 = d) ∧ k + run small st d0 (l.drop k) = T
theorem ScJ.over {l small : List UInt8} {T k st d : Nat} (h : ScJ l small T k st d) (hk : l.length ≤ k) : T = k := by
  obtain ⟨d0, _, h⟩ := h
  rw [run_none (by unfold step; rw [if_pos (by rw [List.length_drop]; omega)])] at h
  omega
theorem ScJ.hit {l small : List UInt8} {T k st d : Nat} (h : ScJ l small T k st d) (hk : k < l.length) (hst : st < 2) (he : endsB (l.drop k) small = true) : T = k := by
  obtain ⟨d0, _, h⟩ := h
  rw [run_none (by unfold step; rw [if_neg (by rw [List.length_drop]; omega), if_pos ⟨hst, he⟩])] at h
  omega
theorem ScJ.go {l small : List UInt8} {T k st d n st' : Nat} (h : ScJ l small T k st d) (hk : k < l.length) (he : st = 2 ∨ endsB (l.drop k) small = false) (ht : turnP st d (l.drop k) = (st', n)) (hne : st' ≠ st) :
    ScJ l small T (k + n) st' (((l.drop k).take n).count 45) := by
  obtain ⟨d0, hd, h⟩ := h
  obtain ⟨d1, h1, h2⟩ := turn_step (small := small) (r := l.drop k) (by rw [List.length_drop]; omega) hd he (by rw [ht]; exact hne)
  rw [ht] at h1 h2
  simp only at h1 h2
  rw [run_some h1, List.drop_drop] at h
  exact ⟨d1, h2, by omega⟩
theorem ScJ.stay {l small : List UInt8} {T k st d n : Nat} (h : ScJ l small T k st d) (hk : k < l.length) (hst : st ≤ 2) (he : st = 2 ∨ endsB (l.drop k) small = false) (ht : turnP st d (l.drop k) = (st, n)) :
    ScJ l small T (k + 1) st (if U8.B (l.drop k) 0 = 45 then d + 1 else 0) := by
  obtain ⟨d0, hd, h⟩ := h
  obtain ⟨d1, h1, h2⟩ := turn_stay (small := small) (r := l.drop k) (by rw [List.length_drop]; omega) hst hd he (by rw [ht])
  rw [run_some h1, List.drop_drop] at h
  exact ⟨d1, h2, by omega⟩
end Go.Proofs.YtgldgdopabmefaaGreatDoor.Raw
