/- Walks over the reference of layer 7: whether a text stands at a place, what stands up to a sign, whether something begins. Walks over the reference of layer 7: a comment, behind its beginning. -/
import Derived.Test.YtgldgdopabmefaaGreatDoorNotePl
import Derived.Test.YtgldgdopabmefaaGreatDoorRefHex
import Derived.Test.YtgldgdopabmefaaGreatDoorRawTag
import Derived.Deep.LoopGhost
import Derived.IntWalk
import Derived.Handy
import Derived.BigQuiet
namespace Go.Proofs.YtgldgdopabmefaaGreatDoor
open Go.RowKit Go.Lib
set_option maxRecDepth 100000
set_option linter.unusedVariables false

theorem pre_take {l t : List UInt8} {n : Nat} (h : n + t.length ≤ l.length) : hasPrefix (l.drop n) t = ((l.drop n).take t.length == t) := by
  have := hasPrefix_of_take (l.drop n) t
  rw [← this, decide_eq_true (by rw [List.length_drop]; omega), Bool.true_and]
theorem ext_mid (s : ByteArray) (a b : Nat) : (s.extract a b).toList = (s.data.toList.drop a).take (b - a) := extract_toList s a b
theorem same_bs (s : ByteArray) : bs s.data.toList = s := by
  apply ByteArray.ext
  apply Array.ext'
  rfl
theorem mid_bs (s : ByteArray) (a b : Nat) : s.extract a b = bs ((s.data.toList.drop a).take (b - a)) := by
  rw [← same_bs (s.extract a b), ← ByteArray.toList_eq, ext_mid]
/-- Whether a text stands at a place, whatever number that is. -/
def atI (l : List UInt8) (i : Int) (t : List UInt8) : Bool := decide (0 ≤ i) && hasPrefix (l.drop i.toNat) t
theorem atI_nat (l : List UInt8) (n : Nat) (t : List UInt8) : atI l (n : Int) t = hasPrefix (l.drop n) t := by unfold atI; rw [decide_eq_true (by omega)]; rfl
theorem atI_neg {l : List UInt8} {i : Int} {t : List UInt8} (h : i < 0) : atI l i t = false := by unfold atI; rw [decide_eq_false (by omega)]; rfl
set_option maxHeartbeats 1000000 in
theorem at_any (s p : ByteArray) (i : Int) (t : List UInt8) (w : World) (hp : p.data.toList = t) (ht : t ≠ []) (hs : s.size ≤ 1000000) (hps : t.length ≤ 1000000) (hi : -9223372036854775808 ≤ i ∧ i ≤ 9223372036854775807) :
    Calls Tryz.prog 41 #[.string s, .int .i64 i, .string p] w fun e w' => e = .returned (.bool (atI s.data.toList i t)) ∧ w = w' := by
  obtain ⟨i1, i2⟩ := hi
  have hsl := size_list s
  have hpl : p.size = t.length := by rw [size_eq, hp]
  by_cases hneg : i < 0
  · rw [atI_neg hneg]
    have d0 : decide (0 ≤ i) = false := decide_eq_false (by omega)
    clear hsl hpl
    go_enter Tryz.func41, Tryz.ntmps41
    go_wp2
    go_ret
    exact ⟨rfl, rfl⟩
  have d0 : decide (0 ≤ i) = true := decide_eq_true (by omega)
  obtain ⟨n, rfl⟩ : ∃ n : Nat, i = n := ⟨i.toNat, by omega⟩
  rw [atI_nat]
  by_cases hlen : s.size < n
  · rw [Note.pre_end (by omega) ht]
    have d1 : decide ((n : Int) ≤ (s.size : Int)) = false := decide_eq_false (by omega)
    have d1N : decide (n ≤ s.size) = false := decide_eq_false (by omega)
    clear hsl hpl
    go_enter Tryz.func41, Tryz.ntmps41
    go_wp2
    go_ret
    exact ⟨rfl, rfl⟩
  have d1 : decide ((n : Int) ≤ (s.size : Int)) = true := decide_eq_true (by omega)
  have d1N : decide (n ≤ s.size) = true := decide_eq_true (by omega)
  by_cases hroom : n + p.size ≤ s.size
  · have d2 : decide ((p.size : Int) ≤ (s.size : Int) - (n : Int)) = true := decide_eq_true (by omega)
    have hE : (s.extract n (n + p.size)).toList = (s.data.toList.drop n).take t.length := by rw [ext_mid, show n + p.size - n = t.length by omega]
    have hP : p.toList = t := by rw [ByteArray.toList_eq, hp]
    rw [pre_take (by omega)]
    have hR : ((s.data.toList.drop n).take t.length == t) = ((s.extract n (n + p.size)).toList == p.toList) := by rw [hE, hP]
    rw [hR]
    have q1 : ((n : Int)).toNat = n := by omega
    have q2 : (0 : Int) ≤ (n : Int) := by omega
    have q3 : (n : Int) ≤ (n : Int) + (p.size : Int) := by omega
    have q4 : (n : Int) + (p.size : Int) ≤ (s.size : Int) := by omega
    have q5 : ((n : Int) + (p.size : Int)).toNat = n + p.size := by omega
    have q6 : (0 : Int) ≤ (n : Int) + (p.size : Int) := by omega
    have q7 : n ≤ n + p.size := by omega
    clear hsl hpl hE hP hR hp ht
    go_enter Tryz.func41, Tryz.ntmps41
    go_wp2
    go_ret
    exact ⟨rfl, rfl⟩
  · have d2 : decide ((p.size : Int) ≤ (s.size : Int) - (n : Int)) = false := decide_eq_false (by omega)
    have hF : hasPrefix (s.data.toList.drop n) t = false := by
      cases hc : hasPrefix (s.data.toList.drop n) t with
      | false => rfl
      | true => have := Note.pre_room hc ht; omega
    rw [hF]
    clear hsl hpl hF hp ht
    go_enter Tryz.func41, Tryz.ntmps41
    go_wp2
    go_ret
    exact ⟨rfl, rfl⟩
theorem at_nat (s p : ByteArray) (n : Nat) (t : List UInt8) (w : World) (hp : p.data.toList = t) (ht : t ≠ []) (hs : s.size ≤ 1000000) (hps : t.length ≤ 1000000) (hn : n ≤ 2000000) :
    Calls Tryz.prog 41 #[.string s, .int .i64 n, .string p] w fun e w' => e = .returned (.bool (hasPrefix (s.data.toList.drop n) t)) ∧ w = w' := by
  have := at_any s p n t w hp ht hs hps (by omega)
  rwa [atI_nat] at this
set_option maxHeartbeats 2000000 in
theorem up_any (s p : ByteArray) (n : Nat) (t : List UInt8) (w : World) (hp : p.data.toList = t) (ht : t ≠ []) (hs : s.size ≤ 1000000) (hps : t.length ≤ 1000000) (hn : n ≤ s.size) :
    Calls Tryz.prog 43 #[.string s, .int .i64 n, .string p] w fun e w' => e = .returned (.tuple #[.string (bs (Note.upTo (s.data.toList.drop n) t).1), .int .i64 (n + (Note.upTo (s.data.toList.drop n) t).2)]) ∧ w = w' := by
  have hsl := size_list s
  have HSL := hid hsl
  have hpl : p.size = t.length := by rw [size_eq, hp]
  have HPL := hid hpl
  have HT := hid ht
  have HA := hid fun (k : Nat) (hk : k ≤ 2000000) W => at_nat s p k t W hp ht hs hps hk
  have hpb : p.size ≤ 1000000 := by omega
  obtain ⟨V, hV⟩ : ∃ V : Value, .tuple #[.string (bs (Note.upTo (s.data.toList.drop n) t).1), .int .i64 (n + (Note.upTo (s.data.toList.drop n) t).2)] = V := ⟨_, rfl⟩
  rw [hV]
  have HV := hid hV
  clear hsl hpl hp ht hV hps
  go_enter Tryz.func43, Tryz.ntmps43
  go_wp2
  go_loopg [8] (s.size - n) (fun g iv wr => ∃ k : Nat, n ≤ k ∧ k + g = s.size ∧ iv = .int .i64 k ∧ Hid (∀ j, j < k - n → hasPrefix ((s.data.toList.drop n).drop j) t = false) ∧ w = wr)
  case atStart => exact ⟨n, by omega, by omega, rfl, hid fun j hj => absurd hj (by omega), rfl⟩
  case round =>
    obtain ⟨k, hnk, hk, rfl, hI, rfl⟩ := hrel
    by_cases hlt : k < s.size
    · have d1 : decide (k < s.size) = true := decide_eq_true hlt
      have hltI : (k : Int) < (s.size : Int) := by omega
      have HAk := fun W => HA.out k (by omega) W
      have hdd : (s.data.toList.drop n).drop (k - n) = s.data.toList.drop k := by rw [List.drop_drop, show n + (k - n) = k by omega]
      cases hc : hasPrefix (s.data.toList.drop k) t with
      | true =>
        have hu := Note.upTo_hit (r := s.data.toList.drop n) (sign := t) (m := k - n) (by rw [List.length_drop]; have := HSL.out; omega) (by rw [hdd]; exact hc) hI.out
        have HE : Hid (Ending.returned (.tuple #[.string (s.extract n k), .int .i64 ((k : Int) + (p.size : Int))]) = .returned V) := hid (by
          rw [← HV.out, hu, mid_bs]
          simp only
          have h1 : ((n : Int) + ((k - n + t.length : Nat) : Int)) = (k : Int) + (p.size : Int) := by have := HPL.out; omega
          rw [h1])
        rw [hc] at HAk
        have HAk := hid HAk
        have q1 : ((n : Int)).toNat = n := by omega
        have q2 : (0 : Int) ≤ (n : Int) := by omega
        have q3 : (n : Int) ≤ (k : Int) := by omega
        have q4 : (k : Int) ≤ (s.size : Int) := by omega
        have q5 : ((k : Int)).toNat = k := by omega
        have q6 : (0 : Int) ≤ (k : Int) := by omega
        clear hc hu hdd hI
        go_wp2_with fail
        refine (HAk.out _).mono ?_
        rintro e w1 ⟨rfl, rfl⟩
        go_wp2
        go_returns
        exact ⟨HE.out, rfl⟩
      | false =>
        have HN : Hid (∀ j, j < (k + 1) - n → hasPrefix ((s.data.toList.drop n).drop j) t = false) := hid fun j hj => by
          by_cases e : j = k - n
          · rw [e, hdd]; exact hc
          · exact hI.out j (by omega)
        rw [hc] at HAk
        have HAk := hid HAk
        clear hc hdd hI
        go_wp2_with fail
        refine (HAk.out _).mono ?_
        rintro e w1 ⟨rfl, rfl⟩
        go_wp2
        go_roundg (s.size - (k + 1))
        case measure => omega
        case rel => exact ⟨k + 1, by omega, by omega, by go_num, HN, rfl⟩
    · have d1 : decide (k < s.size) = false := decide_eq_false hlt
      have hltI : ¬ (k : Int) < (s.size : Int) := by omega
      have hu := Note.upTo_none (r := s.data.toList.drop n) HT.out (fun j hj => hI.out j (by rw [List.length_drop] at hj; have := HSL.out; omega))
      have HE : Hid (Ending.returned (.tuple #[.string (s.extract n s.size), .int .i64 (s.size : Int)]) = .returned V) := hid (by
        rw [← HV.out, hu, ← same_bs (s.extract n s.size), extract_drop]
        simp only [List.length_drop]
        have h1 : ((n : Int) + ((s.data.toList.length - n : Nat) : Int)) = (s.size : Int) := by have := HSL.out; omega
        rw [h1])
      have q1 : ((n : Int)).toNat = n := by omega
      have q2 : (0 : Int) ≤ (n : Int) := by omega
      have q3 : (n : Int) ≤ (s.size : Int) := by omega
      clear hu hI
      go_wp2
      go_returns
      exact ⟨HE.out, rfl⟩
/-- Something that is no tag begins at i, whatever number that is: as the reference has it. -/
theorem pre_two (l : List UInt8) (n : Nat) (p q : UInt8) : hasPrefix (l.drop n) [p, q] = (decide (l[n]? = some p) && decide (l[n + 1]? = some q)) := by
  rw [Note.pre_one, Note.pre_one, Note.pre_nil, Bool.and_true]
set_option maxHeartbeats 2000000 in
theorem rnbegins_any (s : ByteArray) (i : Int) (w : World) (hs : s.size ≤ 1000000) (hi : -9223372036854775808 ≤ i ∧ i ≤ 9223372036854775807) :
    Calls Tryz.prog 18 #[.string s, .int .i64 i] w fun e w' => e = .returned (.bool (decide (0 ≤ i) && Note.begB (s.data.toList.drop i.toNat))) ∧ w = w' := by
  have hsl := size_list s
  have H33 := fun W => at_any s ⟨#[60, 33]⟩ i [60, 33] W rfl (by decide) hs (by decide) hi
  have H63 := fun W => at_any s ⟨#[60, 63]⟩ i [60, 63] W rfl (by decide) hs (by decide) hi
  have H47 := fun W => at_any s ⟨#[60, 47]⟩ i [60, 47] W rfl (by decide) hs (by decide) hi
  obtain ⟨B, hB⟩ : ∃ B, (decide (0 ≤ i) && Note.begB (s.data.toList.drop i.toNat)) = B := ⟨_, rfl⟩
  have hB2 : ((atI s.data.toList i [60, 33] || atI s.data.toList i [60, 63]) || (atI s.data.toList i [60, 47] && (decide (2 < (s.data.toList.drop i.toNat).length) && !letterN (U8.B (s.data.toList.drop i.toNat) 2)))) = B := by
    rw [← hB]
    unfold atI Note.begB
    cases decide (0 ≤ i) <;> simp
  rw [hB]
  clear hB
  cases h33 : atI s.data.toList i [60, 33] with
  | true =>
    rw [h33] at H33 hB2
    have H33 := hid H33
    obtain rfl : true = B := by simpa using hB2
    clear hsl h33 H63 H47 hB2 hi
    go_enter Tryz.func18, Tryz.ntmps18
    go_wp2_with fail
    refine (H33.out _).mono ?_
    rintro e w1 ⟨rfl, rfl⟩
    go_wp2
    go_ret
    exact ⟨rfl, rfl⟩
  | false =>
    rw [h33] at H33 hB2
    have H33 := hid H33
    cases h63 : atI s.data.toList i [60, 63] with
    | true =>
      rw [h63] at H63 hB2
      have H63 := hid H63
      obtain rfl : true = B := by simpa using hB2
      clear hsl h33 h63 H47 hB2 hi
      go_enter Tryz.func18, Tryz.ntmps18
      go_wp2_with fail
      refine (H33.out _).mono ?_
      rintro e w1 ⟨rfl, rfl⟩
      go_wp2_with fail
      refine (H63.out _).mono ?_
      rintro e w1 ⟨rfl, rfl⟩
      go_wp2
      go_ret
      exact ⟨rfl, rfl⟩
    | false =>
      rw [h63] at H63 hB2
      have H63 := hid H63
      cases h47 : atI s.data.toList i [60, 47] with
      | false =>
        rw [h47] at H47 hB2
        have H47 := hid H47
        obtain rfl : false = B := by simpa using hB2
        clear hsl h33 h63 h47 hB2 hi
        go_enter Tryz.func18, Tryz.ntmps18
        go_wp2_with fail
        refine (H33.out _).mono ?_
        rintro e w1 ⟨rfl, rfl⟩
        go_wp2_with fail
        refine (H63.out _).mono ?_
        rintro e w1 ⟨rfl, rfl⟩
        go_wp2_with fail
        refine (H47.out _).mono ?_
        rintro e w1 ⟨rfl, rfl⟩
        go_wp2
        go_ret
        exact ⟨rfl, rfl⟩
      | true =>
        have hin : 0 ≤ i := by
          unfold atI at h47
          simp only [Bool.and_eq_true, decide_eq_true_eq] at h47
          exact h47.1
        obtain ⟨n, rfl⟩ : ∃ n : Nat, i = n := ⟨i.toNat, by omega⟩
        have hroom : n + 2 ≤ s.size := by
          rw [atI_nat] at h47
          have := Note.pre_room h47 (by decide)
          rw [hsl] at this
          exact this
        rw [h47] at H47 hB2
        have H47 := hid H47
        rw [show ((n : Int)).toNat = n by omega] at hB2
        rw [Bool.false_or, Bool.false_or, Bool.true_and, List.length_drop, hsl, U8.B_drop] at hB2
        by_cases h2 : n + 2 < s.size
        · have d2 : decide ((n : Int) + 2 < (s.size : Int)) = true := decide_eq_true (by omega)
          have d2I : (n : Int) + 2 < (s.size : Int) := by omega
          have q2 : ((n : Int) + 2).toNat = n + 2 := by omega
          have g2 := get_of s (n + 2) h2
          obtain ⟨c2, hc2⟩ : ∃ c, s[n + 2]'h2 = c := ⟨_, rfl⟩
          rw [hc2] at g2
          have k2 := c2.toNat_lt
          have HS := rletter_any c2.toNat (by omega) w
          rw [decide_eq_true (by omega), Bool.true_and, ← g2] at hB2
          have HS := hid HS
          generalize letterN c2.toNat = z at *
          subst hB2
          clear hsl h33 h63 h47 hi g2
          go_enter Tryz.func18, Tryz.ntmps18
          go_wp2_with fail
          refine (H33.out _).mono ?_
          rintro e w1 ⟨rfl, rfl⟩
          go_wp2_with fail
          refine (H63.out _).mono ?_
          rintro e w1 ⟨rfl, rfl⟩
          go_wp2_with fail
          refine (H47.out _).mono ?_
          rintro e w1 ⟨rfl, rfl⟩
          go_wp2_with fail
          refine HS.out.mono ?_
          rintro e w1 ⟨rfl, rfl⟩
          go_wp2
          go_ret
          exact ⟨rfl, rfl⟩
        · have d2 : decide ((n : Int) + 2 < (s.size : Int)) = false := decide_eq_false (by omega)
          have d2I : ¬ (n : Int) + 2 < (s.size : Int) := by omega
          rw [decide_eq_false (by omega), Bool.false_and] at hB2
          subst hB2
          clear hsl h33 h63 h47 hi
          go_enter Tryz.func18, Tryz.ntmps18
          go_wp2_with fail
          refine (H33.out _).mono ?_
          rintro e w1 ⟨rfl, rfl⟩
          go_wp2_with fail
          refine (H63.out _).mono ?_
          rintro e w1 ⟨rfl, rfl⟩
          go_wp2_with fail
          refine (H47.out _).mono ?_
          rintro e w1 ⟨rfl, rfl⟩
          go_wp2
          go_ret
          exact ⟨rfl, rfl⟩
end Go.Proofs.YtgldgdopabmefaaGreatDoor
namespace Go.Proofs.YtgldgdopabmefaaGreatDoor
open Go.RowKit Go.Lib
set_option maxRecDepth 100000
set_option linter.unusedVariables false

/-- What a comment without an end leaves out, the longer ahead. -/
def leftL : List (List UInt8) := [[45, 45, 33], [45, 45], [45]]
theorem left_get {k : Nat} (h : k < 3) : ∃ e, leftL[k]? = some e ∧ 1 ≤ e.length ∧ e.length ≤ 3 := by
  match k, h with
  | 0, _ => exact ⟨_, rfl, by decide⟩
  | 1, _ => exact ⟨_, rfl, by decide⟩
  | 2, _ => exact ⟨_, rfl, by decide⟩
theorem bare_hit {r e : List UInt8} {k : Nat} (hk : leftL[k]? = some e) (h : hasSuffix r e = true) (hn : ∀ j, j < k → ∀ d, leftL[j]? = some d → hasSuffix r d = false) : Note.bare r = r.take (r.length - e.length) := by
  match k, hk with
  | 0, hk =>
    obtain rfl : [45, 45, 33] = e := by simpa [leftL] using hk
    unfold Note.bare
    rw [if_pos h]; rfl
  | 1, hk =>
    obtain rfl : [45, 45] = e := by simpa [leftL] using hk
    have h0 := hn 0 (by omega) _ rfl
    unfold Note.bare
    rw [h0, if_neg (by decide), if_pos h]; rfl
  | 2, hk =>
    obtain rfl : [45] = e := by simpa [leftL] using hk
    have h0 := hn 0 (by omega) _ rfl
    have h1 := hn 1 (by omega) _ rfl
    unfold Note.bare
    rw [h0, if_neg (by decide), h1, if_neg (by decide), if_pos h]; rfl
  | k + 3, hk => simp [leftL] at hk
theorem bare_no {r : List UInt8} (hn : ∀ j, j < 3 → ∀ d, leftL[j]? = some d → hasSuffix r d = false) : Note.bare r = r := by
  have h0 := hn 0 (by omega) _ rfl
  have h1 := hn 1 (by omega) _ rfl
  have h2 := hn 2 (by omega) _ rfl
  unfold Note.bare
  rw [h0, if_neg (by decide), h1, if_neg (by decide), h2, if_neg (by decide)]
theorem suf_drop {r e : List UInt8} (h : e.length ≤ r.length) : hasSuffix r e = (r.drop (r.length - e.length) == e) := by
  unfold hasSuffix
  rw [Bool.eq_iff_iff, List.isSuffixOf_iff_suffix, List.suffix_iff_eq_drop, beq_iff_eq]
  exact eq_comm
theorem suf_short {r e : List UInt8} (h : r.length < e.length) : hasSuffix r e = false := by
  cases hc : hasSuffix r e with
  | false => rfl
  | true => have := Note.suf_len hc; omega
theorem hits_3 {l : List UInt8} {k : Nat} (h : hasPrefix (l.drop k) [45, 45, 62] = true) {r : List UInt8} {n : Nat} (hr : l.drop n = r) (hn : n ≤ k) : Note.endAt r (k - n) = 3 := by
  unfold Note.endAt
  rw [if_pos]
  rw [← hr, List.drop_drop, show n + (k - n) = k by omega]
  exact h
theorem hits_4 {l : List UInt8} {k : Nat} (h3 : hasPrefix (l.drop k) [45, 45, 62] = false) (h : hasPrefix (l.drop k) [45, 45, 33, 62] = true) {r : List UInt8} {n : Nat} (hr : l.drop n = r) (hn : n ≤ k) : Note.endAt r (k - n) = 4 := by
  have e : r.drop (k - n) = l.drop k := by rw [← hr, List.drop_drop, show n + (k - n) = k by omega]
  unfold Note.endAt
  rw [e, h3, if_neg (by decide), if_pos h]
theorem hits_0 {l : List UInt8} {k : Nat} (h3 : hasPrefix (l.drop k) [45, 45, 62] = false) (h : hasPrefix (l.drop k) [45, 45, 33, 62] = false) {r : List UInt8} {n : Nat} (hr : l.drop n = r) (hn : n ≤ k) : Note.endAt r (k - n) = 0 := by
  have e : r.drop (k - n) = l.drop k := by rw [← hr, List.drop_drop, show n + (k - n) = k by omega]
  unfold Note.endAt
  rw [e, h3, if_neg (by decide), h, if_neg (by decide)]
/-- What the reference's comment tells. -/
def rcomV (n : Nat) (r : List UInt8 × Nat) : Value := .tuple #[.string (bs r.1), .int .i64 (n + r.2)]
theorem rcom_hit {s : ByteArray} {n k m : Nat} {r : List UInt8} {V : Value} (hr : s.data.toList.drop n = r) (hV : rcomV n (Note.body r) = V) (hb : Note.body r = (r.take (k - n), k - n + m)) (hn : n ≤ k) :
    Ending.returned (.tuple #[.string (s.extract n k), .int .i64 ((k : Int) + (m : Nat))]) = .returned V := by
  rw [← hV, hb]
  unfold rcomV
  simp only
  rw [mid_bs, hr]
  have h1 : ((n : Int) + ((k - n + m : Nat) : Int)) = (k : Int) + (m : Int) := by omega
  rw [h1]
theorem body_bare {r : List UInt8} {s : ByteArray} {n k : Nat} (hr : s.data.toList.drop n = r) (hn : n ≤ s.size) (hk : ¬ k < s.size) (hI : ∀ j, j < k - n → Note.endAt r j = 0) : Note.body r = (Note.bare r, r.length) := by
  refine Note.body_miss fun j hj => hI j ?_
  rw [← hr, List.length_drop, size_list] at hj
  omega
theorem left_cells (w : World) : ∀ k e, leftL[k]? = some e → (w.alloc (.cells #[.string ⟨#[45, 45, 33]⟩, .string ⟨#[45, 45]⟩, .string ⟨#[45]⟩] 9)).cell? ⟨w.heap.size, k, none⟩ = some (.string (bs e)) := by
  intro k e h
  rw [World.cell?_alloc_mark]
  match k, h with
  | 0, h => obtain rfl : [45, 45, 33] = e := by simpa [leftL] using h
            rfl
  | 1, h => obtain rfl : [45, 45] = e := by simpa [leftL] using h
            rfl
  | 2, h => obtain rfl : [45] = e := by simpa [leftL] using h
            rfl
  | k + 3, h => simp [leftL] at h
theorem left_step {r e : List UInt8} {k : Nat} (h : ∀ j, j < k → ∀ d, leftL[j]? = some d → hasSuffix r d = false) (he : leftL[k]? = some e) (hs : hasSuffix r e = false) : ∀ j, j < k + 1 → ∀ d, leftL[j]? = some d → hasSuffix r d = false := by
  intro j hj d hd
  by_cases e2 : j = k
  · subst e2
    obtain rfl := Option.some.inj (he.symm.trans hd)
    exact hs
  · exact h j (by omega) d hd
theorem bare_ret {r e : List UInt8} {X : ByteArray} {n q m : Nat} {V : Value} (hV : rcomV n (Note.body r) = V) (hb : Note.body r = (Note.bare r, r.length)) (hr : Note.bare r = r.take (r.length - e.length)) (hX : X.data.toList = r) (hq : q = r.length - e.length) (hm : n + r.length = m) :
    Ending.returned (.tuple #[.string (X.extract 0 q), .int .i64 (m : Nat)]) = .returned V := by
  rw [← hV, hb, hr, mid_bs, hX, hq, ← hm]
  rfl
theorem bare_end {r : List UInt8} {X : ByteArray} {n m : Nat} {V : Value} (hV : rcomV n (Note.body r) = V) (hb : Note.body r = (Note.bare r, r.length)) (hr : Note.bare r = r) (hX : X = bs r) (hm : n + r.length = m) :
    Ending.returned (.tuple #[.string X, .int .i64 (m : Nat)]) = .returned V := by
  rw [← hV, hb, hr, hX, ← hm]
  rfl
set_option maxHeartbeats 4000000 in
theorem rscan_any (s : ByteArray) (n : Nat) (w : World) (hs : s.size ≤ 1000000) (hn : n ≤ s.size) (h1 : hasPrefix (s.data.toList.drop n) [62] = false) (h2 : hasPrefix (s.data.toList.drop n) [45, 62] = false) :
    Calls Tryz.prog 42 #[.string s, .int .i64 n] w fun e w' => e = .returned (rcomV n (Note.body (s.data.toList.drop n))) ∧ Below w.heap.size w w' := by
  have hsl := size_list s
  have HSL := hid hsl
  have A1 := fun W => at_nat s ⟨#[62]⟩ n [62] W rfl (by decide) hs (by decide) (by omega)
  have A2 := fun W => at_nat s ⟨#[45, 62]⟩ n [45, 62] W rfl (by decide) hs (by decide) (by omega)
  rw [h1] at A1
  rw [h2] at A2
  have A1 := hid A1
  have A2 := hid A2
  have HA3 := hid fun (k : Nat) (hk : k ≤ 2000000) W => at_nat s ⟨#[45, 45, 62]⟩ k [45, 45, 62] W rfl (by decide) hs (by decide) hk
  have HA4 := hid fun (k : Nat) (hk : k ≤ 2000000) W => at_nat s ⟨#[45, 45, 33, 62]⟩ k [45, 45, 33, 62] W rfl (by decide) hs (by decide) hk
  obtain ⟨r, hr⟩ : ∃ r, s.data.toList.drop n = r := ⟨_, rfl⟩
  rw [hr]
  have HR := hid hr
  have hrl : r.length = s.size - n := by rw [← hr, List.length_drop, hsl]
  have HRL := hid hrl
  obtain ⟨V, hV⟩ : ∃ V, rcomV n (Note.body r) = V := ⟨_, rfl⟩
  rw [hV]
  have HV := hid hV
  clear hsl h1 h2 hr hV hrl
  have p1 : ((n : Int)).toNat = n := by omega
  have p2 : (0 : Int) ≤ (n : Int) := by omega
  have p3 : (n : Int) ≤ (s.size : Int) := by omega
  go_enter Tryz.func42, Tryz.ntmps42
  go_wp2_with fail
  refine (A1.out _).mono ?_
  rintro e w1 ⟨rfl, rfl⟩
  go_wp2_with fail
  refine (A2.out _).mono ?_
  rintro e w1 ⟨rfl, rfl⟩
  go_wp2
  go_loopg [6] (s.size - n) (fun g iv wr => ∃ k : Nat, n ≤ k ∧ k + g = s.size ∧ iv = .int .i64 k ∧ Hid (∀ j, j < k - n → Note.endAt r j = 0) ∧ w = wr)
  case atStart => exact ⟨n, by omega, by omega, rfl, hid fun j hj => absurd hj (by omega), rfl⟩
  case round =>
    obtain ⟨k, hnk, hk, rfl, hI, rfl⟩ := hrel
    by_cases hlt : k < s.size
    · have d1 : decide (k < s.size) = true := decide_eq_true hlt
      have hltI : (k : Int) < (s.size : Int) := by omega
      have HA3k := fun W => HA3.out k (by omega) W
      have HA4k := fun W => HA4.out k (by omega) W
      have q3 : (n : Int) ≤ (k : Int) := by omega
      have q4 : (k : Int) ≤ (s.size : Int) := by omega
      have q5 : ((k : Int)).toNat = k := by omega
      have q6 : (0 : Int) ≤ (k : Int) := by omega
      cases hc3 : hasPrefix (s.data.toList.drop k) [45, 45, 62] with
      | true =>
        have hh := hits_3 hc3 HR.out hnk
        have HE := hid (rcom_hit HR.out HV.out (Note.body_hit hh (by decide) (by have := HRL.out; omega) hI.out) hnk)
        rw [hc3] at HA3k
        have HA3k := hid HA3k
        clear hc3 hh hI HA4k
        go_wp2_with fail
        refine (HA3k.out _).mono ?_
        rintro e w1 ⟨rfl, rfl⟩
        go_wp2
        go_returns
        exact ⟨HE.out, Below.refl _ _⟩
      | false =>
        rw [hc3] at HA3k
        have HA3k := hid HA3k
        cases hc4 : hasPrefix (s.data.toList.drop k) [45, 45, 33, 62] with
        | true =>
          have hh := hits_4 hc3 hc4 HR.out hnk
          have HE := hid (rcom_hit HR.out HV.out (Note.body_hit hh (by decide) (by have := HRL.out; omega) hI.out) hnk)
          rw [hc4] at HA4k
          have HA4k := hid HA4k
          clear hc3 hc4 hh hI
          go_wp2_with fail
          refine (HA3k.out _).mono ?_
          rintro e w1 ⟨rfl, rfl⟩
          go_wp2_with fail
          refine (HA4k.out _).mono ?_
          rintro e w1 ⟨rfl, rfl⟩
          go_wp2
          go_returns
          exact ⟨HE.out, Below.refl _ _⟩
        | false =>
          have hh := hits_0 hc3 hc4 HR.out hnk
          have HN : Hid (∀ j, j < (k + 1) - n → Note.endAt r j = 0) := hid fun j hj => by
            by_cases e : j = k - n
            · rw [e]; exact hh
            · exact hI.out j (by omega)
          rw [hc4] at HA4k
          have HA4k := hid HA4k
          clear hc3 hc4 hh hI
          go_wp2_with fail
          refine (HA3k.out _).mono ?_
          rintro e w1 ⟨rfl, rfl⟩
          go_wp2_with fail
          refine (HA4k.out _).mono ?_
          rintro e w1 ⟨rfl, rfl⟩
          go_wp2
          go_roundg (s.size - (k + 1))
          case measure => omega
          case rel => exact ⟨k + 1, by omega, by omega, by go_num, HN, rfl⟩
    · have d1 : decide (k < s.size) = false := decide_eq_false hlt
      have hltI : ¬ (k : Int) < (s.size : Int) := by omega
      have HBd := hid (body_bare HR.out hn hlt hI.out)
      have HCL := hid (left_cells w)
      have HB0 := hid ((Below.refl w.heap.size w).alloc (Nat.le_refl _) (.cells #[.string ⟨#[45, 45, 33]⟩, .string ⟨#[45, 45]⟩, .string ⟨#[45]⟩] 9))
      obtain ⟨X, hX⟩ : ∃ X, s.extract n s.size = X := ⟨_, rfl⟩
      have hXr : X = bs r := by rw [← hX, ← HR.out, mid_bs, List.take_of_length_le (by rw [List.length_drop, HSL.out]; exact Nat.le_refl _)]
      have hXs : X.size = r.length := by rw [hXr]; exact size_eq _
      have HX := hid hX
      have HXr := hid hXr
      have HXs := hid hXs
      clear hI hX hXr hXs
      go_wp2
      rw [HX.out]
      go_loopg [9] 3 (fun g iv wr => ∃ k : Nat, k + g = 3 ∧ iv = .int .i64 k ∧ Hid (∀ j, j < k → ∀ d, leftL[j]? = some d → hasSuffix r d = false) ∧ Hid (∀ k e, leftL[k]? = some e → wr.cell? ⟨w.heap.size, k, none⟩ = some (.string (bs e))) ∧ Hid (Below w.heap.size w wr))
      case atStart => exact ⟨0, by omega, rfl, hid fun j hj => absurd hj (by omega), HCL, HB0⟩
      case round =>
        obtain ⟨k, hk3, rfl, hI, hCk, hBk⟩ := hrel
        by_cases hl3 : k < 3
        · have e1 : decide (k < 3) = true := decide_eq_true hl3
          have e1I : decide ((k : Int) < 3) = true := decide_eq_true (by omega)
          have e2I : (k : Int) < 3 := by omega
          obtain ⟨e, he, he1, he2⟩ := left_get hl3
          have c0 := hCk.out k e he
          have hZs : (bs e).size = e.length := size_eq _
          have hZl : (bs e).toList = e := by rw [ByteArray.toList_eq]; rfl
          obtain ⟨Z, hZ⟩ : ∃ Z, bs e = Z := ⟨_, rfl⟩
          rw [hZ] at c0 hZs hZl
          have hXs := HXs.out
          by_cases hsh : X.size < Z.size
          · have g1 : decide ((0 : Int) ≤ (X.size : Int) - (Z.size : Int)) = false := decide_eq_false (by omega)
            have g3 : decide (Z.size ≤ X.size) = false := decide_eq_false (by omega)
            have g4 : decide ((Z.size : Int) ≤ (X.size : Int)) = false := decide_eq_false (by omega)
            have g2 : IntKind.i64.wrap ((X.size : Int) - (Z.size : Int)) = (X.size : Int) - (Z.size : Int) := IntWalk.i64_in _ (by have := HRL.out; omega)
            have HNx := hid (left_step hI.out he (suf_short (by omega)))
            clear hZ hZs hZl he hXs hI
            go_wp2
            go_quiet (fail)
            go_wp2
            go_roundg (3 - (k + 1))
            case measure => omega
            case rel => exact ⟨k + 1, by omega, by go_num, HNx, hid hCk.out, hid (bel_drewN hBk.out nq)⟩
          · obtain ⟨q, hq⟩ : ∃ q, q + Z.size = X.size := ⟨X.size - Z.size, by omega⟩
            have hqI : (X.size : Int) - (Z.size : Int) = (q : Int) := by omega
            have g2 : IntKind.i64.wrap (q : Int) = (q : Int) := IntWalk.i64_in _ (by have := HRL.out; omega)
            have q1 : ((q : Int)).toNat = q := by omega
            have q2 : (0 : Int) ≤ (q : Int) := by omega
            have q3 : (q : Int) ≤ (X.size : Int) := by omega
            have q4 : q ≤ X.size := by omega
            have q5 : decide ((0 : Int) ≤ (q : Int)) = true := decide_eq_true q2
            have g3 : decide (Z.size ≤ X.size) = true := decide_eq_true (by omega)
            have g4 : decide ((Z.size : Int) ≤ (X.size : Int)) = true := decide_eq_true (by omega)
            have hXl : X.data.toList = r := by rw [HXr.out]; rfl
            have hsd : (X.extract q X.size).toList = r.drop (r.length - e.length) := by
              rw [ByteArray.toList_eq, extract_drop, hXl, show q = r.length - e.length by omega]
            have hsx : ((X.extract q X.size).toList == Z.toList) = hasSuffix r e := by rw [suf_drop (by omega), hsd, hZl]
            cases hsu : hasSuffix r e with
            | true =>
              have hb := bare_hit he hsu hI.out
              rw [hsu] at hsx
              have HE := hid (bare_ret HV.out HBd.out hb hXl (show q = r.length - e.length by omega) (show n + r.length = s.size by have := HRL.out; omega))
              have HQ := hid hq
              clear hb hsu hsd hXl hZ hZs hZl he hXs hI hq
              go_wp2
              go_quiet (fail)
              go_wp2
              go_returns
              exact ⟨HE.out, bel_drewN hBk.out nq⟩
            | false =>
              have HNx := hid (left_step hI.out he hsu)
              rw [hsu] at hsx
              have HQ := hid hq
              clear hsu hsd hXl hZ hZs hZl he hXs hI hq
              go_wp2
              go_quiet (fail)
              go_wp2
              go_roundg (3 - (k + 1))
              case measure => omega
              case rel => exact ⟨k + 1, by omega, by go_num, HNx, hid hCk.out, hid (bel_drewN hBk.out nq)⟩
        · have e1 : decide (k < 3) = false := decide_eq_false hl3
          have e1I : decide ((k : Int) < 3) = false := decide_eq_false (by omega)
          have e2I : ¬ (k : Int) < 3 := by omega
          have hb := bare_no (r := r) (fun j hj => hI.out j (by omega))
          have HE := hid (bare_end HV.out HBd.out hb HXr.out (show n + r.length = s.size by have := HRL.out; omega))
          clear hb hI
          go_wp2
          go_returns
          exact ⟨HE.out, hBk.out⟩
theorem rcomment_any (s : ByteArray) (n : Nat) (w : World) (hs : s.size ≤ 1000000) (hn : n ≤ s.size) :
    Calls Tryz.prog 42 #[.string s, .int .i64 n] w fun e w' => e = .returned (rcomV n (Note.comment (s.data.toList.drop n))) ∧ Below w.heap.size w w' := by
  unfold Note.comment
  have A1 := fun W => at_nat s ⟨#[62]⟩ n [62] W rfl (by decide) hs (by decide) (by omega)
  have A2 := fun W => at_nat s ⟨#[45, 62]⟩ n [45, 62] W rfl (by decide) hs (by decide) (by omega)
  cases h1 : hasPrefix (s.data.toList.drop n) [62] with
  | true =>
    rw [if_pos rfl]
    rw [h1] at A1
    have A1 := hid A1
    clear h1 A2
    go_enter Tryz.func42, Tryz.ntmps42
    go_wp2_with fail
    refine (A1.out _).mono ?_
    rintro e w1 ⟨rfl, rfl⟩
    go_wp2
    go_returns
    exact ⟨rfl, Below.refl _ _⟩
  | false =>
    rw [if_neg (by decide)]
    cases h2 : hasPrefix (s.data.toList.drop n) [45, 62] with
    | true =>
      rw [if_pos rfl]
      rw [h1] at A1
      rw [h2] at A2
      have A1 := hid A1
      have A2 := hid A2
      clear h1 h2
      go_enter Tryz.func42, Tryz.ntmps42
      go_wp2_with fail
      refine (A1.out _).mono ?_
      rintro e w1 ⟨rfl, rfl⟩
      go_wp2_with fail
      refine (A2.out _).mono ?_
      rintro e w1 ⟨rfl, rfl⟩
      go_wp2
      go_returns
      exact ⟨rfl, Below.refl _ _⟩
    | false =>
      rw [if_neg (by decide)]
      exact rscan_any s n w hs hn h1 h2
end Go.Proofs.YtgldgdopabmefaaGreatDoor
