/- Walks over the reference of layer 8: ends of a name. -/
import Derived.Test.YtlikpmmkfjghbaaDoorRawPl
import Derived.Test.YtlikpmmkfjghbaaDoorRefSpace
import Derived.Test.YtlikpmmkfjghbaaDoorRefLower
import Derived.Deep.LoopGhost
import Derived.IntWalk
namespace Go.Proofs.YtlikpmmkfjghbaaDoor
open Go.RowKit Go.Lib
set_option maxRecDepth 100000
set_option linter.unusedVariables false

theorem raw_mid (s : ByteArray) (a b : Nat) : (s.extract a b).data.toList = (s.data.toList.drop a).take (b - a) := by
  rw [← ByteArray.toList_eq, extract_toList]
theorem raw_at (s : ByteArray) (k : Nat) (h : k < s.size) : U8.B (s.data.toList.drop k) 0 = (s[k]'h).toNat := by
  rw [U8.B_drop, Nat.add_zero, get_of s k h]
theorem closed_at (s : ByteArray) (k : Nat) : Raw.closedB (s.data.toList.drop k) = (decide (k < s.size) && (spaceN (U8.B s.data.toList k) || (U8.B s.data.toList k == 47 || U8.B s.data.toList k == 62))) := by
  unfold Raw.closedB
  rw [U8.B_drop, Nat.add_zero, List.length_drop, size_list]
  congr 1
  rw [Bool.eq_iff_iff]
  simp
  omega
set_option maxHeartbeats 1000000 in
theorem rclosed_any (s : ByteArray) (k : Nat) (w : World) (hs : s.size ≤ 1000000) (hk : k ≤ 4000000) :
    Calls Tryd.prog 29 #[.string s, .int .i64 k] w fun e w' => e = .returned (.bool (Raw.closedB (s.data.toList.drop k))) ∧ w = w' := by
  rw [closed_at]
  have q1 : ((k : Int)).toNat = k := by omega
  have q2 : (0 : Int) ≤ (k : Int) := by omega
  by_cases hlt : k < s.size
  · have d1 : decide (k < s.size) = true := decide_eq_true hlt
    have hltI : (k : Int) < (s.size : Int) := by omega
    have hg := get_of s k hlt
    obtain ⟨c, hc⟩ : ∃ c, s[k]'hlt = c := ⟨_, rfl⟩
    rw [hc] at hg
    have hc256 := c.toNat_lt
    rw [d1, Bool.true_and, ← hg]
    have HS := fun W => rspace_any c.toNat (by omega) W
    cases h1 : spaceN c.toNat with
    | true =>
      rw [h1] at HS
      rw [Bool.true_or]
      have HS := hid HS
      clear hg h1
      go_enter Tryd.func29, Tryd.ntmps29
      go_wp2_with fail
      refine (HS.out _).mono ?_
      rintro e w1 ⟨rfl, rfl⟩
      go_wp2
      go_ret
      exact ⟨rfl, rfl⟩
    | false =>
      rw [h1] at HS
      rw [Bool.false_or]
      have HS := hid HS
      by_cases h47 : c.toNat = 47
      · have t1 : (((c.toNat : Nat) : Int) == 47) = true := by rw [h47]; rfl
        rw [show (c.toNat == 47) = true by simp [h47], Bool.true_or]
        clear hg h1 h47
        go_enter Tryd.func29, Tryd.ntmps29
        go_wp2_with fail
        refine (HS.out _).mono ?_
        rintro e w1 ⟨rfl, rfl⟩
        go_wp2
        go_ret
        exact ⟨rfl, rfl⟩
      · have t1 : (((c.toNat : Nat) : Int) == 47) = false := by simp; omega
        rw [show (c.toNat == 47) = false by simp [h47], Bool.false_or]
        have t2 : (((c.toNat : Nat) : Int) == 62) = (c.toNat == 62) := by
          rw [Bool.eq_iff_iff]
          simp
          omega
        generalize (c.toNat == 62) = z at *
        clear hg h1 h47
        go_enter Tryd.func29, Tryd.ntmps29
        go_wp2_with fail
        refine (HS.out _).mono ?_
        rintro e w1 ⟨rfl, rfl⟩
        go_wp2
        go_ret
        exact ⟨rfl, rfl⟩
  · have d1 : decide (k < s.size) = false := decide_eq_false hlt
    have hltI : ¬ (k : Int) < (s.size : Int) := by omega
    rw [d1, Bool.false_and]
    go_enter Tryd.func29, Tryd.ntmps29
    go_wp2
    go_ret
    exact ⟨rfl, rfl⟩
set_option maxHeartbeats 1000000 in
theorem rword_any (s p : ByteArray) (k : Nat) (w : World) (hs : s.size ≤ 1000000) (hps : p.size ≤ 1000000) (hk : k ≤ s.size) :
    Calls Tryd.prog 28 #[.string s, .int .i64 k, .string p] w fun e w' => e = .returned (.bool (Raw.wordB (s.data.toList.drop k) p.data.toList)) ∧ Below w.heap.size w w' := by
  have hsl := size_list s
  have hpl := size_list p
  unfold Raw.wordB
  by_cases hroom : k + p.size ≤ s.size
  · have d1 : decide ((p.size : Int) ≤ (s.size : Int) - (k : Int)) = true := decide_eq_true (by omega)
    have q1 : ((k : Int)).toNat = k := by omega
    have q2 : (0 : Int) ≤ (k : Int) := by omega
    have q3 : (k : Int) ≤ (k : Int) + (p.size : Int) := by omega
    have q4 : (k : Int) + (p.size : Int) ≤ (s.size : Int) := by omega
    have q5 : ((k : Int) + (p.size : Int)).toNat = k + p.size := by omega
    have q6 : (0 : Int) ≤ (k : Int) + (p.size : Int) := by omega
    have q7 : k ≤ k + p.size := by omega
    have hm := raw_mid s k (k + p.size)
    rw [show k + p.size - k = p.size by omega] at hm
    have L := fun W => rlower_any (s.extract k (k + p.size)) W (by rw [← size_list, hm, List.length_take]; omega)
    rw [hm] at L
    obtain ⟨X, hX⟩ : ∃ X : ByteArray, (⟨(lowL ((s.data.toList.drop k).take p.size)).toArray⟩ : ByteArray) = X := ⟨_, rfl⟩
    rw [hX] at L
    have hR : (X.toList == p.toList) = (decide (p.data.toList.length ≤ (s.data.toList.drop k).length) && decide (lowL ((s.data.toList.drop k).take p.data.toList.length) = p.data.toList)) := by
      rw [decide_eq_true (show p.data.toList.length ≤ (s.data.toList.drop k).length by rw [List.length_drop]; omega), Bool.true_and, ByteArray.toList_eq, ByteArray.toList_eq, ← hX, hpl]
      rw [Bool.eq_iff_iff]
      simp
    rw [← hR]
    have L := hid L
    clear hsl hpl hm hX hR
    go_enter Tryd.func28, Tryd.ntmps28
    go_wp2_with fail
    refine (L.out _).mono ?_
    rintro e w1 ⟨rfl, b1⟩
    go_wp2
    go_ret
    exact ⟨rfl, b1⟩
  · have d1 : decide ((p.size : Int) ≤ (s.size : Int) - (k : Int)) = false := decide_eq_false (by omega)
    rw [decide_eq_false (show ¬ p.data.toList.length ≤ (s.data.toList.drop k).length by rw [List.length_drop]; omega), Bool.false_and]
    clear hsl hpl
    go_enter Tryd.func28, Tryd.ntmps28
    go_wp2
    go_ret
    exact ⟨rfl, Below.refl _ _⟩
set_option maxHeartbeats 1000000 in
theorem rends_any (s name : ByteArray) (k : Nat) (w : World) (hs : s.size ≤ 1000000) (hps : name.size ≤ 900000) (hk : k ≤ s.size) :
    Calls Tryd.prog 16 #[.string s, .int .i64 k, .string name] w fun e w' => e = .returned (.bool (Raw.endsB (s.data.toList.drop k) (Raw.smallN name.data.toList))) ∧ Below w.heap.size w w' := by
  have hnl := size_list name
  have L := fun W => rlower_any name W (by omega)
  obtain ⟨X, hX⟩ : ∃ X : ByteArray, (⟨(lowL name.data.toList).toArray⟩ : ByteArray) = X := ⟨_, rfl⟩
  rw [hX] at L
  have hXs : X.size = name.size := by rw [← hX, size_eq]; show (lowL name.data.toList).length = _; rw [lowL_len, hnl]
  obtain ⟨P, hP⟩ : ∃ P : ByteArray, (⟨#[60, 47]⟩ : ByteArray) ++ X = P := ⟨_, rfl⟩
  have hPl : P.data.toList = Raw.smallN name.data.toList := by
    rw [← hP, ByteArray.data_append, Array.toList_append, ← hX]
    rfl
  have hPs : P.size = 2 + name.size := by rw [← hP, ByteArray.size_append, hXs]; rfl
  have W1 := fun W => rword_any s P k W hs (by omega) hk
  have C1 := fun W => rclosed_any s (k + P.size) W hs (by omega)
  unfold Raw.endsB
  rw [hPl] at W1
  have hlen : (Raw.smallN name.data.toList).length = P.size := by rw [← hPl]; exact size_list P
  rw [hlen, List.drop_drop]
  rw [show ((k + P.size : Nat) : Int) = (k : Int) + (P.size : Int) by omega] at C1
  have m1 : ¬ 9223372036854775807 < 2 + X.size := by omega
  have L := hid L
  have W1 := hid W1
  have C1 := hid C1
  have HP := hid hP
  have hPb : P.size ≤ 900002 := by omega
  clear hPs hXs
  cases hw : Raw.wordB (s.data.toList.drop k) (Raw.smallN name.data.toList) with
  | true =>
    rw [hw] at W1
    have W1 := hid W1.out
    rw [Bool.true_and]
    generalize Raw.closedB (s.data.toList.drop (k + P.size)) = z at *
    clear hnl hX hP hPl hlen hw
    go_enter Tryd.func16, Tryd.ntmps16
    go_wp2_with fail
    refine (L.out _).mono ?_
    rintro e w1 ⟨rfl, b1⟩
    go_wp2_with fail
    rw [HP.out]
    refine (W1.out _).mono ?_
    rintro e w2 ⟨rfl, b2⟩
    have B2 := hid (b1.trans (b2.mono b1.size))
    clear b1 b2
    go_wp2_with fail
    refine (C1.out _).mono ?_
    rintro e w3 ⟨rfl, rfl⟩
    go_wp2
    go_ret
    exact ⟨rfl, B2.out⟩
  | false =>
    rw [hw] at W1
    have W1 := hid W1.out
    rw [Bool.false_and]
    clear hnl hX hP hPl hlen hw C1
    go_enter Tryd.func16, Tryd.ntmps16
    go_wp2_with fail
    refine (L.out _).mono ?_
    rintro e w1 ⟨rfl, b1⟩
    go_wp2_with fail
    rw [HP.out]
    refine (W1.out _).mono ?_
    rintro e w2 ⟨rfl, b2⟩
    have B2 := hid (b1.trans (b2.mono b1.size))
    clear b1 b2
    go_wp2
    go_ret
    exact ⟨rfl, B2.out⟩
end Go.Proofs.YtlikpmmkfjghbaaDoor
