/- Walks over the reference of layer 7: whether a text stands at a place, what stands up to a sign, whether something begins. -/
import Derived.Test.YtinioghpghcdiaaDoorNotePl
import Derived.Test.YtinioghpghcdiaaDoorRefLetter
import Derived.Test.YtinioghpghcdiaaDoorPairs
import Derived.Deep.LoopGhost
import Derived.IntWalk
import Derived.Handy
namespace Go.Proofs.YtinioghpghcdiaaDoor
open Go.RowKit Go.Lib
set_option maxRecDepth 100000
set_option linter.unusedVariables false

theorem pre_take {l t : List UInt8} {n : Nat} (h : n + t.length ≤ l.length) : hasPrefix (l.drop n) t = ((l.drop n).take t.length == t) := by
  have := hasPrefix_of_take (l.drop n) t
  rw [← this, decide_eq_true (by rw [List.length_drop]; omega), Bool.true_and]
theorem ext_mid (s : ByteArray) (a b : Nat) : (s.extract a b).toList = (s.data.toList.drop a).take (b - a) := extract_toList s a b
theorem same_bs (s : ByteArray) : bs s.data.toList = s := by
  apply ByteArray.ext
  apply Array.ext'
  rfl
theorem mid_bs (s : ByteArray) (a b : Nat) : s.extract a b = bs ((s.data.toList.drop a).take (b - a)) := by
  rw [← same_bs (s.extract a b), ← ByteArray.toList_eq, ext_mid]
/-- Whether a text stands at a place, whatever number that is. -/
def atI (l : List UInt8) (i : Int) (t : List UInt8) : Bool := decide (0 ≤ i) && hasPrefix (l.drop i.toNat) t
theorem atI_nat (l : List UInt8) (n : Nat) (t : List UInt8) : atI l (n : Int) t = hasPrefix (l.drop n) t := by unfold atI; rw [decide_eq_true (by omega)]; rfl
theorem atI_neg {l : List UInt8} {i : Int} {t : List UInt8} (h : i < 0) : atI l i t = false := by unfold atI; rw [decide_eq_false (by omega)]; rfl
set_option maxHeartbeats 1000000 in
theorem at_any (s p : ByteArray) (i : Int) (t : List UInt8) (w : World) (hp : p.data.toList = t) (ht : t ≠ []) (hs : s.size ≤ 1000000) (hps : t.length ≤ 1000000) (hi : -9223372036854775808 ≤ i ∧ i ≤ 9223372036854775807) :
    Calls Tryd.prog 16 #[.string s, .int .i64 i, .string p] w fun e w' => e = .returned (.bool (atI s.data.toList i t)) ∧ w = w' := by
  obtain ⟨i1, i2⟩ := hi
  have hsl := size_list s
  have hpl : p.size = t.length := by rw [size_eq, hp]
  by_cases hneg : i < 0
  · rw [atI_neg hneg]
    have d0 : decide (0 ≤ i) = false := decide_eq_false (by omega)
    clear hsl hpl
    go_enter Tryd.func16, Tryd.ntmps16
    go_wp2
    go_ret
    exact ⟨rfl, rfl⟩
  have d0 : decide (0 ≤ i) = true := decide_eq_true (by omega)
  obtain ⟨n, rfl⟩ : ∃ n : Nat, i = n := ⟨i.toNat, by omega⟩
  rw [atI_nat]
  by_cases hlen : s.size < n
  · rw [Note.pre_end (by omega) ht]
    have d1 : decide ((n : Int) ≤ (s.size : Int)) = false := decide_eq_false (by omega)
    have d1N : decide (n ≤ s.size) = false := decide_eq_false (by omega)
    clear hsl hpl
    go_enter Tryd.func16, Tryd.ntmps16
    go_wp2
    go_ret
    exact ⟨rfl, rfl⟩
  have d1 : decide ((n : Int) ≤ (s.size : Int)) = true := decide_eq_true (by omega)
  have d1N : decide (n ≤ s.size) = true := decide_eq_true (by omega)
  by_cases hroom : n + p.size ≤ s.size
  · have d2 : decide ((p.size : Int) ≤ (s.size : Int) - (n : Int)) = true := decide_eq_true (by omega)
    have hE : (s.extract n (n + p.size)).toList = (s.data.toList.drop n).take t.length := by rw [ext_mid, show n + p.size - n = t.length by omega]
    have hP : p.toList = t := by rw [ByteArray.toList_eq, hp]
    rw [pre_take (by omega)]
    have hR : ((s.data.toList.drop n).take t.length == t) = ((s.extract n (n + p.size)).toList == p.toList) := by rw [hE, hP]
    rw [hR]
    have q1 : ((n : Int)).toNat = n := by omega
    have q2 : (0 : Int) ≤ (n : Int) := by omega
    have q3 : (n : Int) ≤ (n : Int) + (p.size : Int) := by omega
    have q4 : (n : Int) + (p.size : Int) ≤ (s.size : Int) := by omega
    have q5 : ((n : Int) + (p.size : Int)).toNat = n + p.size := by omega
    have q6 : (0 : Int) ≤ (n : Int) + (p.size : Int) := by omega
    have q7 : n ≤ n + p.size := by omega
    clear hsl hpl hE hP hR hp ht
    go_enter Tryd.func16, Tryd.ntmps16
    go_wp2
    go_ret
    exact ⟨rfl, rfl⟩
  · have d2 : decide ((p.size : Int) ≤ (s.size : Int) - (n : Int)) = false := decide_eq_false (by omega)
    have hF : hasPrefix (s.data.toList.drop n) t = false := by
      cases hc : hasPrefix (s.data.toList.drop n) t with
      | false => rfl
      | true => have := Note.pre_room hc ht; omega
    rw [hF]
    clear hsl hpl hF hp ht
    go_enter Tryd.func16, Tryd.ntmps16
    go_wp2
    go_ret
    exact ⟨rfl, rfl⟩
theorem at_nat (s p : ByteArray) (n : Nat) (t : List UInt8) (w : World) (hp : p.data.toList = t) (ht : t ≠ []) (hs : s.size ≤ 1000000) (hps : t.length ≤ 1000000) (hn : n ≤ 2000000) :
    Calls Tryd.prog 16 #[.string s, .int .i64 n, .string p] w fun e w' => e = .returned (.bool (hasPrefix (s.data.toList.drop n) t)) ∧ w = w' := by
  have := at_any s p n t w hp ht hs hps (by omega)
  rwa [atI_nat] at this
set_option maxHeartbeats 2000000 in
theorem up_any (s p : ByteArray) (n : Nat) (t : List UInt8) (w : World) (hp : p.data.toList = t) (ht : t ≠ []) (hs : s.size ≤ 1000000) (hps : t.length ≤ 1000000) (hn : n ≤ s.size) :
    Calls Tryd.prog 19 #[.string s, .int .i64 n, .string p] w fun e w' => e = .returned (.tuple #[.string (bs (Note.upTo (s.data.toList.drop n) t).1), .int .i64 (n + (Note.upTo (s.data.toList.drop n) t).2)]) ∧ w = w' := by
  have hsl := size_list s
  have HSL := hid hsl
  have hpl : p.size = t.length := by rw [size_eq, hp]
  have HPL := hid hpl
  have HT := hid ht
  have HA := hid fun (k : Nat) (hk : k ≤ 2000000) W => at_nat s p k t W hp ht hs hps hk
  have hpb : p.size ≤ 1000000 := by omega
  obtain ⟨V, hV⟩ : ∃ V : Value, .tuple #[.string (bs (Note.upTo (s.data.toList.drop n) t).1), .int .i64 (n + (Note.upTo (s.data.toList.drop n) t).2)] = V := ⟨_, rfl⟩
  rw [hV]
  have HV := hid hV
  clear hsl hpl hp ht hV hps
  go_enter Tryd.func19, Tryd.ntmps19
  go_wp2
  go_loopg [8] (s.size - n) (fun g iv wr => ∃ k : Nat, n ≤ k ∧ k + g = s.size ∧ iv = .int .i64 k ∧ Hid (∀ j, j < k - n → hasPrefix ((s.data.toList.drop n).drop j) t = false) ∧ w = wr)
  case atStart => exact ⟨n, by omega, by omega, rfl, hid fun j hj => absurd hj (by omega), rfl⟩
  case round =>
    obtain ⟨k, hnk, hk, rfl, hI, rfl⟩ := hrel
    by_cases hlt : k < s.size
    · have d1 : decide (k < s.size) = true := decide_eq_true hlt
      have hltI : (k : Int) < (s.size : Int) := by omega
      have HAk := fun W => HA.out k (by omega) W
      have hdd : (s.data.toList.drop n).drop (k - n) = s.data.toList.drop k := by rw [List.drop_drop, show n + (k - n) = k by omega]
      cases hc : hasPrefix (s.data.toList.drop k) t with
      | true =>
        have hu := Note.upTo_hit (r := s.data.toList.drop n) (sign := t) (m := k - n) (by rw [List.length_drop]; have := HSL.out; omega) (by rw [hdd]; exact hc) hI.out
        have HE : Hid (Ending.returned (.tuple #[.string (s.extract n k), .int .i64 ((k : Int) + (p.size : Int))]) = .returned V) := hid (by
          rw [← HV.out, hu, mid_bs]
          simp only
          have h1 : ((n : Int) + ((k - n + t.length : Nat) : Int)) = (k : Int) + (p.size : Int) := by have := HPL.out; omega
          rw [h1])
        rw [hc] at HAk
        have HAk := hid HAk
        have q1 : ((n : Int)).toNat = n := by omega
        have q2 : (0 : Int) ≤ (n : Int) := by omega
        have q3 : (n : Int) ≤ (k : Int) := by omega
        have q4 : (k : Int) ≤ (s.size : Int) := by omega
        have q5 : ((k : Int)).toNat = k := by omega
        have q6 : (0 : Int) ≤ (k : Int) := by omega
        clear hc hu hdd hI
        go_wp2_with fail
        refine (HAk.out _).mono ?_
        rintro e w1 ⟨rfl, rfl⟩
        go_wp2
        go_returns
        exact ⟨HE.out, rfl⟩
      | false =>
        have HN : Hid (∀ j, j < (k + 1) - n → hasPrefix ((s.data.toList.drop n).drop j) t = false) := hid fun j hj => by
          by_cases e : j = k - n
          · rw [e, hdd]; exact hc
          · exact hI.out j (by omega)
        rw [hc] at HAk
        have HAk := hid HAk
        clear hc hdd hI
        go_wp2_with fail
        refine (HAk.out _).mono ?_
        rintro e w1 ⟨rfl, rfl⟩
        go_wp2
        go_roundg (s.size - (k + 1))
        case measure => omega
        case rel => exact ⟨k + 1, by omega, by omega, by go_num, HN, rfl⟩
    · have d1 : decide (k < s.size) = false := decide_eq_false hlt
      have hltI : ¬ (k : Int) < (s.size : Int) := by omega
      have hu := Note.upTo_none (r := s.data.toList.drop n) HT.out (fun j hj => hI.out j (by rw [List.length_drop] at hj; have := HSL.out; omega))
      have HE : Hid (Ending.returned (.tuple #[.string (s.extract n s.size), .int .i64 (s.size : Int)]) = .returned V) := hid (by
        rw [← HV.out, hu, ← same_bs (s.extract n s.size), extract_drop]
        simp only [List.length_drop]
        have h1 : ((n : Int) + ((s.data.toList.length - n : Nat) : Int)) = (s.size : Int) := by have := HSL.out; omega
        rw [h1])
      have q1 : ((n : Int)).toNat = n := by omega
      have q2 : (0 : Int) ≤ (n : Int) := by omega
      have q3 : (n : Int) ≤ (s.size : Int) := by omega
      clear hu hI
      go_wp2
      go_returns
      exact ⟨HE.out, rfl⟩
/-- Something that is no tag begins at i, whatever number that is: as the reference has it. -/
theorem pre_two (l : List UInt8) (n : Nat) (p q : UInt8) : hasPrefix (l.drop n) [p, q] = (decide (l[n]? = some p) && decide (l[n + 1]? = some q)) := by
  rw [Note.pre_one, Note.pre_one, Note.pre_nil, Bool.and_true]
set_option maxHeartbeats 2000000 in
theorem rnbegins_any (s : ByteArray) (i : Int) (w : World) (hs : s.size ≤ 1000000) (hi : -9223372036854775808 ≤ i ∧ i ≤ 9223372036854775807) :
    Calls Tryd.prog 12 #[.string s, .int .i64 i] w fun e w' => e = .returned (.bool (decide (0 ≤ i) && Note.begB (s.data.toList.drop i.toNat))) ∧ w = w' := by
  have hsl := size_list s
  have H33 := fun W => at_any s ⟨#[60, 33]⟩ i [60, 33] W rfl (by decide) hs (by decide) hi
  have H63 := fun W => at_any s ⟨#[60, 63]⟩ i [60, 63] W rfl (by decide) hs (by decide) hi
  have H47 := fun W => at_any s ⟨#[60, 47]⟩ i [60, 47] W rfl (by decide) hs (by decide) hi
  obtain ⟨B, hB⟩ : ∃ B, (decide (0 ≤ i) && Note.begB (s.data.toList.drop i.toNat)) = B := ⟨_, rfl⟩
  have hB2 : ((atI s.data.toList i [60, 33] || atI s.data.toList i [60, 63]) || (atI s.data.toList i [60, 47] && (decide (2 < (s.data.toList.drop i.toNat).length) && !letterN (U8.B (s.data.toList.drop i.toNat) 2)))) = B := by
    rw [← hB]
    unfold atI Note.begB
    cases decide (0 ≤ i) <;> simp
  rw [hB]
  clear hB
  cases h33 : atI s.data.toList i [60, 33] with
  | true =>
    rw [h33] at H33 hB2
    have H33 := hid H33
    obtain rfl : true = B := by simpa using hB2
    clear hsl h33 H63 H47 hB2 hi
    go_enter Tryd.func12, Tryd.ntmps12
    go_wp2_with fail
    refine (H33.out _).mono ?_
    rintro e w1 ⟨rfl, rfl⟩
    go_wp2
    go_ret
    exact ⟨rfl, rfl⟩
  | false =>
    rw [h33] at H33 hB2
    have H33 := hid H33
    cases h63 : atI s.data.toList i [60, 63] with
    | true =>
      rw [h63] at H63 hB2
      have H63 := hid H63
      obtain rfl : true = B := by simpa using hB2
      clear hsl h33 h63 H47 hB2 hi
      go_enter Tryd.func12, Tryd.ntmps12
      go_wp2_with fail
      refine (H33.out _).mono ?_
      rintro e w1 ⟨rfl, rfl⟩
      go_wp2_with fail
      refine (H63.out _).mono ?_
      rintro e w1 ⟨rfl, rfl⟩
      go_wp2
      go_ret
      exact ⟨rfl, rfl⟩
    | false =>
      rw [h63] at H63 hB2
      have H63 := hid H63
      cases h47 : atI s.data.toList i [60, 47] with
      | false =>
        rw [h47] at H47 hB2
        have H47 := hid H47
        obtain rfl : false = B := by simpa using hB2
        clear hsl h33 h63 h47 hB2 hi
        go_enter Tryd.func12, Tryd.ntmps12
        go_wp2_with fail
        refine (H33.out _).mono ?_
        rintro e w1 ⟨rfl, rfl⟩
        go_wp2_with fail
        refine (H63.out _).mono ?_
        rintro e w1 ⟨rfl, rfl⟩
        go_wp2_with fail
        refine (H47.out _).mono ?_
        rintro e w1 ⟨rfl, rfl⟩
        go_wp2
        go_ret
        exact ⟨rfl, rfl⟩
      | true =>
        have hin : 0 ≤ i := by
          unfold atI at h47
          simp only [Bool.and_eq_true, decide_eq_true_eq] at h47
          exact h47.1
        obtain ⟨n, rfl⟩ : ∃ n : Nat, i = n := ⟨i.toNat, by omega⟩
        have hroom : n + 2 ≤ s.size := by
          rw [atI_nat] at h47
          have := Note.pre_room h47 (by decide)
          rw [hsl] at this
          exact this
        rw [h47] at H47 hB2
        have H47 := hid H47
        rw [show ((n : Int)).toNat = n by omega] at hB2
        rw [Bool.false_or, Bool.false_or, Bool.true_and, List.length_drop, hsl, U8.B_drop] at hB2
        by_cases h2 : n + 2 < s.size
        · have d2 : decide ((n : Int) + 2 < (s.size : Int)) = true := decide_eq_true (by omega)
          have d2I : (n : Int) + 2 < (s.size : Int) := by omega
          have q2 : ((n : Int) + 2).toNat = n + 2 := by omega
          have g2 := get_of s (n + 2) h2
          obtain ⟨c2, hc2⟩ : ∃ c, s[n + 2]'h2 = c := ⟨_, rfl⟩
          rw [hc2] at g2
          have k2 := c2.toNat_lt
          have HS := rletter_any c2.toNat (by omega) w
          rw [decide_eq_true (by omega), Bool.true_and, ← g2] at hB2
          have HS := hid HS
          generalize letterN c2.toNat = z at *
          subst hB2
          clear hsl h33 h63 h47 hi g2
          go_enter Tryd.func12, Tryd.ntmps12
          go_wp2_with fail
          refine (H33.out _).mono ?_
          rintro e w1 ⟨rfl, rfl⟩
          go_wp2_with fail
          refine (H63.out _).mono ?_
          rintro e w1 ⟨rfl, rfl⟩
          go_wp2_with fail
          refine (H47.out _).mono ?_
          rintro e w1 ⟨rfl, rfl⟩
          go_wp2_with fail
          refine HS.out.mono ?_
          rintro e w1 ⟨rfl, rfl⟩
          go_wp2
          go_ret
          exact ⟨rfl, rfl⟩
        · have d2 : decide ((n : Int) + 2 < (s.size : Int)) = false := decide_eq_false (by omega)
          have d2I : ¬ (n : Int) + 2 < (s.size : Int) := by omega
          rw [decide_eq_false (by omega), Bool.false_and] at hB2
          subst hB2
          clear hsl h33 h63 h47 hi
          go_enter Tryd.func12, Tryd.ntmps12
          go_wp2_with fail
          refine (H33.out _).mono ?_
          rintro e w1 ⟨rfl, rfl⟩
          go_wp2_with fail
          refine (H63.out _).mono ?_
          rintro e w1 ⟨rfl, rfl⟩
          go_wp2_with fail
          refine (H47.out _).mono ?_
          rintro e w1 ⟨rfl, rfl⟩
          go_wp2
          go_ret
          exact ⟨rfl, rfl⟩
end Go.Proofs.YtinioghpghcdiaaDoor
