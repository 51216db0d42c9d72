/- Walks: the statement RawParts of layer 8 over what the program's Text is known to tell (RawC). -/
import Derived.Test.YtlikpmmkfjghbaaDoorRawRow
namespace Go.Proofs.YtlikpmmkfjghbaaDoor
open Go.RowKit Go.Lib
set_option maxRecDepth 100000
set_option linter.unusedVariables false

set_option maxHeartbeats 4000000 in
theorem rparts_any {EW : World → Prop} (HC : RawC EW) (HB : KeepsW EW) (s name : ByteArray) (m : Nat) (w : World) (hT : EW w) (ws : s.size ≤ maxLen) (wn : name.size ≤ maxLen) (hm : m < 256) :
    Calls Tryd.prog 4 #[.string s, .string name, .int .u8 m] w fun e w' => e = .returned (.bool true) ∧ Below w.heap.size w w' := by
  unfold maxLen at ws wn
  have HT := hid hT
  have HK := hid (known8_any HC HB)
  by_cases hs : 3000 < s.size
  · have hd : decide ((3000 : Int) < (s.size : Int)) = true := by simp; omega
    clear hT HC HB
    go_enter Tryd.func4, Tryd.ntmps4
    go_wp2_with fail
    refine (HK.out _ HT.out).mono ?_
    rintro e w1 ⟨rfl, b1⟩
    go_wp2
    go_ret
    exact ⟨rfl, b1⟩
  have hd : decide ((3000 : Int) < (s.size : Int)) = false := by simp; omega
  by_cases hn : 3000 < name.size
  · have hd2 : decide ((3000 : Int) < (name.size : Int)) = true := by simp; omega
    clear hT HC HB
    go_enter Tryd.func4, Tryd.ntmps4
    go_wp2_with fail
    refine (HK.out _ HT.out).mono ?_
    rintro e w1 ⟨rfl, b1⟩
    go_wp2
    go_ret
    exact ⟨rfl, b1⟩
  have hd2 : decide ((3000 : Int) < (name.size : Int)) = false := by simp; omega
  have hsl := size_list s
  have hnl := size_list name
  obtain ⟨z, hz⟩ : ∃ z : Nat, m % 4 = z := ⟨_, rfl⟩
  have hz4 : z < 4 := by omega
  have hrem : ((m : Nat) : Int).tmod 4 = (z : Int) := by rw [Int.tmod_eq_emod_of_nonneg (by omega), ← hz]; omega
  have hremE : ((m : Nat) : Int) % 4 = (z : Int) := by rw [← hz]; omega
  obtain ⟨q, hq⟩ : ∃ q : Nat, z + 1 = q := ⟨_, rfl⟩
  have hqI : (z : Int) + 1 = (q : Int) := by omega
  have hq1 : 1 ≤ q := by omega
  have hq4 : q ≤ 4 := by omega
  obtain ⟨k, hk⟩ : ∃ k, Raw.far (Raw.smallN name.data.toList) q s.data.toList = k := ⟨_, rfl⟩
  have hf := Raw.far_form (Raw.smallN name.data.toList) q s.data.toList
  rw [hk, hsl] at hf
  obtain ⟨hks, hend⟩ := hf
  have H1 := fun W hW => raw_at0 HC (s := s) (name := name) (m := q) (k := k) W hW (by omega) (by omega) hq1 hq4 hk rfl
  have v1 : decide ((k : Int) < 0) = false := decide_eq_false (by omega)
  have v2 : decide ((s.size : Int) < (k : Int)) = false := decide_eq_false (by omega)
  have v2N : decide (s.size < k) = false := decide_eq_false (by omega)
  have u1 : ((k : Int)).toNat = k := by omega
  have u2 : (0 : Int) ≤ (k : Int) := by omega
  have u3 : (k : Int) ≤ (s.size : Int) := by omega
  have hpc := raw_piece s 0 k
  rw [Nat.zero_add, List.drop_zero] at hpc
  -- the text: of references whatever it is, else what stands there
  obtain ⟨X, hX, hXq⟩ : ∃ X, bs (Raw.textOf q (s.data.toList.take k)) = X ∧ (q = 1 ∨ X = s.extract 0 k) := by
    refine ⟨_, rfl, ?_⟩
    by_cases h1 : q = 1
    · exact .inl h1
    · refine .inr ?_
      unfold Raw.textOf
      rw [if_neg h1, hpc]
  rw [hX] at H1
  have HBB := hid HB
  by_cases hke : k = s.size
  · have t7 : ((k : Int) == (s.size : Int)) = true := by rw [hke]; simp
    have t7N : (k == s.size) = true := by rw [hke]; simp
    by_cases h1 : q = 1
    · have y1 : (((q : Nat) : Int) != 1) = false := by rw [h1]; rfl
      have H1 := hid H1
      have HKE := hid hke
      clear hT HC HB hX hXq hpc hk hend hke h1 hq hz hsl hnl hremE
      go_enter Tryd.func4, Tryd.ntmps4
      go_wp2_with fail
      refine (HK.out _ HT.out).mono ?_
      rintro e w1 ⟨rfl, b1⟩
      have B1 := hid b1
      have HT1 := hid (HBB.out _ _ HT.out b1)
      clear b1
      go_wp2_with fail
      refine (H1.out _ HT1.out).mono ?_
      rintro e w2 ⟨rfl, b2⟩
      have B2 := hid (B1.out.trans (b2.mono B1.out.size))
      clear b2
      go_wp2
      go_ret
      exact ⟨rfl, B2.out⟩
    · have y1 : (((q : Nat) : Int) != 1) = true := by simp; omega
      obtain rfl := hXq.resolve_left h1
      have H1 := hid H1
      have HKE := hid hke
      clear hT HC HB hX hXq hpc hk hend hke h1 hq hz hsl hnl hremE
      go_enter Tryd.func4, Tryd.ntmps4
      go_wp2_with fail
      refine (HK.out _ HT.out).mono ?_
      rintro e w1 ⟨rfl, b1⟩
      have B1 := hid b1
      have HT1 := hid (HBB.out _ _ HT.out b1)
      clear b1
      go_wp2_with fail
      refine (H1.out _ HT1.out).mono ?_
      rintro e w2 ⟨rfl, b2⟩
      have B2 := hid (B1.out.trans (b2.mono B1.out.size))
      clear b2
      go_wp2
      go_ret
      exact ⟨rfl, B2.out⟩
  · obtain ⟨h4, hen⟩ := hend.resolve_left hke
    have t7 : ((k : Int) == (s.size : Int)) = false := beq_eq_false_iff_ne.2 (by omega)
    have t7N : (k == s.size) = false := beq_eq_false_iff_ne.2 hke
    have y4 : (((q : Nat) : Int) != 4) = true := by simp; omega
    have hel := Raw.ends_len hen
    have heq := Raw.ends_low hen
    rw [List.length_drop, hsl] at hel
    have L := fun W => rlower_any name W (by omega)
    obtain ⟨N, hN⟩ : ∃ N : ByteArray, (⟨(lowL name.data.toList).toArray⟩ : ByteArray) = N := ⟨_, rfl⟩
    rw [hN] at L
    have hNs : N.size = name.size := by rw [← hN, size_eq]; show (lowL name.data.toList).length = _; rw [lowL_len, hnl]
    obtain ⟨P, hP⟩ : ∃ P : ByteArray, (⟨#[60, 47]⟩ : ByteArray) ++ N = P := ⟨_, rfl⟩
    have hPl : P.data.toList = Raw.smallN name.data.toList := by
      rw [← hP, ByteArray.data_append, Array.toList_append, ← hN]
      rfl
    have hPs : P.size = 2 + name.size := by rw [← hP, ByteArray.size_append, hNs]; rfl
    have hPsl : (Raw.smallN name.data.toList).length = P.size := by rw [← hPl]; exact size_list P
    rw [hPsl] at hel heq
    have hmid := raw_mid s k (k + P.size)
    rw [show k + P.size - k = P.size by omega] at hmid
    have L2 := fun W => rlower_any (s.extract k (k + P.size)) W (by rw [← size_list, hmid, List.length_take]; omega)
    rw [hmid, heq, ← hPl, show (⟨P.data.toList.toArray⟩ : ByteArray) = P from by apply ByteArray.ext; rfl] at L2
    have hPN : P.size = 2 + N.size := by rw [hPs, hNs]
    rw [← hP, show (⟨#[60, 47]⟩ ++ N : ByteArray).size = 2 + N.size by rw [hP]; exact hPN] at L2
    have m1 : ¬ 9223372036854775807 < 2 + N.size := by omega
    have w1 : decide ((2 : Int) + (N.size : Int) < (s.size : Int) - (k : Int)) = true := decide_eq_true (by omega)
    have x1 : (0 : Int) ≤ (k : Int) + (2 + (N.size : Int)) := by omega
    have x2 : (k : Int) ≤ (k : Int) + (2 + (N.size : Int)) := by omega
    have x3 : (k : Int) + (2 + (N.size : Int)) ≤ (s.size : Int) := by omega
    have x4 : ((k : Int) + (2 + (N.size : Int))).toNat = k + (2 + N.size) := by omega
    have x5 : k ≤ k + (2 + N.size) := by omega
    have hNb : N.size ≤ 3000 := by omega
    have hsb : s.size ≤ 3000 := by omega
    have L := hid L
    have L2 := hid L2
    by_cases h1 : q = 1
    · have y1 : (((q : Nat) : Int) != 1) = false := by rw [h1]; rfl
      have H1 := hid H1
      clear hT HC HB hX hXq hpc hk hke h1 hq hz hsl hnl hremE hP hPl hPs hPsl hPN hmid heq hel hen hN hNs h4
      go_enter Tryd.func4, Tryd.ntmps4
      go_wp2_with fail
      refine (HK.out _ HT.out).mono ?_
      rintro e v1 ⟨rfl, b1⟩
      have B1 := hid b1
      have HT1 := hid (HBB.out _ _ HT.out b1)
      clear b1
      go_wp2_with fail
      refine (H1.out _ HT1.out).mono ?_
      rintro e v2 ⟨rfl, b2⟩
      have B2 := hid (B1.out.trans (b2.mono B1.out.size))
      clear b2
      go_wp2_with fail
      refine (L.out _).mono ?_
      rintro e v3 ⟨rfl, b3⟩
      have B3 := hid (B2.out.trans (b3.mono B2.out.size))
      clear b3
      go_wp2_with fail
      refine (L2.out _).mono ?_
      rintro e v4 ⟨rfl, b4⟩
      have B4 := hid (B3.out.trans (b4.mono B3.out.size))
      clear b4
      go_wp2
      go_ret
      exact ⟨ret_bool' (by simp), B4.out⟩
    · have y1 : (((q : Nat) : Int) != 1) = true := by simp; omega
      obtain rfl := hXq.resolve_left h1
      have H1 := hid H1
      clear hT HC HB hX hXq hpc hk hke h1 hq hz hsl hnl hremE hP hPl hPs hPsl hPN hmid heq hel hen hN hNs h4
      go_enter Tryd.func4, Tryd.ntmps4
      go_wp2_with fail
      refine (HK.out _ HT.out).mono ?_
      rintro e v1 ⟨rfl, b1⟩
      have B1 := hid b1
      have HT1 := hid (HBB.out _ _ HT.out b1)
      clear b1
      go_wp2_with fail
      refine (H1.out _ HT1.out).mono ?_
      rintro e v2 ⟨rfl, b2⟩
      have B2 := hid (B1.out.trans (b2.mono B1.out.size))
      clear b2
      go_wp2_with fail
      refine (L.out _).mono ?_
      rintro e v3 ⟨rfl, b3⟩
      have B3 := hid (B2.out.trans (b3.mono B2.out.size))
      clear b3
      go_wp2_with fail
      refine (L2.out _).mono ?_
      rintro e v4 ⟨rfl, b4⟩
      have B4 := hid (B3.out.trans (b4.mono B3.out.size))
      clear b4
      go_wp2
      go_ret
      exact ⟨ret_bool' (by simp), B4.out⟩
end Go.Proofs.YtlikpmmkfjghbaaDoor
