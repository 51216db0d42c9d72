/- Walks over the reference of layer 8: Text. -/
import Derived.Test.YtgldgdopabmefaaGreatDoorRefScript
import Derived.Test.YtgldgdopabmefaaGreatDoorRawTag
import Derived.Test.YtgldgdopabmefaaGreatDoorRefEntP
import Derived.Handy
namespace Go.Proofs.YtgldgdopabmefaaGreatDoor
open Go.RowKit Go.Lib
set_option maxRecDepth 100000
set_option linter.unusedVariables false

theorem raw_piece (s : ByteArray) (n k : Nat) : s.extract n (n + k) = bs ((s.data.toList.drop n).take k) := by
  apply ByteArray.ext
  apply Array.ext'
  show (s.extract n (n + k)).data.toList = _
  rw [raw_mid, show n + k - n = k by omega]
  rfl
theorem u8_lit (m c : Nat) : (((m : Nat) : Int) == ((c : Nat) : Int)) = decide (m = c) := by
  rw [Bool.eq_iff_iff]
  simp
  omega
set_option maxHeartbeats 4000000 in
theorem rt_neg (s name : ByteArray) (i : Int) (m : Nat) (w : World) (hs : s.size ≤ 400000) (hps : name.size ≤ 400000) (h : i < 0) :
    Calls Tryz.prog 15 #[.string s, .int .i64 i, .string name, .int .u8 m] w fun e w' => e = .returned (rawV s.data.toList i (Raw.smallN name.data.toList) m) ∧ Below w.heap.size w w' := by
  rw [rawV_no (.inl h)]
  have d0 : decide (i < 0) = true := decide_eq_true h
  clear h
  go_enter Tryz.func15, Tryz.ntmps15
  go_wp2
  go_returns
  exact ⟨rfl, Below.refl _ _⟩
set_option maxHeartbeats 4000000 in
theorem rt_far (s name : ByteArray) (i : Int) (m : Nat) (w : World) (hs : s.size ≤ 400000) (hps : name.size ≤ 400000) (h0 : ¬ i < 0) (h : (s.size : Int) < i) :
    Calls Tryz.prog 15 #[.string s, .int .i64 i, .string name, .int .u8 m] w fun e w' => e = .returned (rawV s.data.toList i (Raw.smallN name.data.toList) m) ∧ Below w.heap.size w w' := by
  rw [rawV_no (.inr (.inl (by rw [size_list]; exact h)))]
  have d0 : decide (i < 0) = false := decide_eq_false h0
  have d1 : decide ((s.size : Int) < i) = true := decide_eq_true h
  clear h h0
  go_enter Tryz.func15, Tryz.ntmps15
  go_wp2
  go_returns
  exact ⟨rfl, Below.refl _ _⟩
set_option maxHeartbeats 4000000 in
theorem rt_low (s name : ByteArray) (i : Int) (m : Nat) (w : World) (hs : s.size ≤ 400000) (hps : name.size ≤ 400000) (h0 : ¬ i < 0) (h1 : ¬ (s.size : Int) < i) (h : m < 1) :
    Calls Tryz.prog 15 #[.string s, .int .i64 i, .string name, .int .u8 m] w fun e w' => e = .returned (rawV s.data.toList i (Raw.smallN name.data.toList) m) ∧ Below w.heap.size w w' := by
  rw [rawV_no (.inr (.inr (.inl (by omega))))]
  have d0 : decide (i < 0) = false := decide_eq_false h0
  have d1 : decide ((s.size : Int) < i) = false := decide_eq_false h1
  obtain rfl : m = 0 := by omega
  clear h h0
  go_enter Tryz.func15, Tryz.ntmps15
  go_wp2
  go_returns
  exact ⟨rfl, Below.refl _ _⟩
set_option maxHeartbeats 4000000 in
theorem rt_high (s name : ByteArray) (i : Int) (m : Nat) (w : World) (hs : s.size ≤ 400000) (hps : name.size ≤ 400000) (h0 : ¬ i < 0) (h1 : ¬ (s.size : Int) < i) (h : 4 < m) (hm : m < 256) :
    Calls Tryz.prog 15 #[.string s, .int .i64 i, .string name, .int .u8 m] w fun e w' => e = .returned (rawV s.data.toList i (Raw.smallN name.data.toList) m) ∧ Below w.heap.size w w' := by
  rw [rawV_no (.inr (.inr (.inr h)))]
  have d0 : decide (i < 0) = false := decide_eq_false h0
  have d1 : decide ((s.size : Int) < i) = false := decide_eq_false h1
  have d2 : decide ((m : Int) < 1) = false := decide_eq_false (by omega)
  have d2N : decide (m < 1) = false := decide_eq_false (by omega)
  have d2Z : decide (m = 0) = false := decide_eq_false (by omega)
  have d3 : decide ((4 : Int) < (m : Int)) = true := decide_eq_true (by omega)
  have d3N : decide (4 < m) = true := decide_eq_true h
  clear h h0
  go_enter Tryz.func15, Tryz.ntmps15
  go_wp2
  go_returns
  exact ⟨rfl, Below.refl _ _⟩
set_option maxHeartbeats 4000000 in
theorem rt_plain (s name : ByteArray) (n : Nat) (w : World) (hs : s.size ≤ 400000) (hps : name.size ≤ 400000) (hn : n ≤ s.size) :
    Calls Tryz.prog 15 #[.string s, .int .i64 n, .string name, .int .u8 4] w fun e w' => e = .returned (rawV s.data.toList n (Raw.smallN name.data.toList) 4) ∧ Below w.heap.size w w' := by
  have hsl := size_list s
  have d0 : decide ((n : Int) < 0) = false := decide_eq_false (by omega)
  have d1 : decide ((s.size : Int) < (n : Int)) = false := decide_eq_false (by omega)
  have d1N : decide (s.size < n) = false := decide_eq_false (by omega)
  have q1 : ((n : Int)).toNat = n := by omega
  have q2 : (0 : Int) ≤ (n : Int) := by omega
  have q3 : (n : Int) ≤ (s.size : Int) := by omega
  have hk : Raw.far (Raw.smallN name.data.toList) 4 (s.data.toList.drop n) = s.size - n := by unfold Raw.far; rw [if_pos rfl, List.length_drop, hsl]
  have hV := rawV_yes (by omega) (by decide) (by decide) hk
  have hp := raw_piece s n (s.size - n)
  rw [show n + (s.size - n) = s.size by omega] at hp
  have HR : Hid (Ending.returned (.tuple #[.string (s.extract n s.size), .int .i64 (s.size : Int)]) = .returned (rawV s.data.toList n (Raw.smallN name.data.toList) 4)) := hid (by
    rw [hV, hp, show (n : Int) + ((s.size - n : Nat) : Int) = (s.size : Int) by omega]
    rfl)
  generalize rawV s.data.toList n (Raw.smallN name.data.toList) 4 = V at *
  clear hk hV hp hsl
  go_enter Tryz.func15, Tryz.ntmps15
  go_wp2
  go_returns
  exact ⟨HR.out, Below.refl _ _⟩
set_option maxHeartbeats 4000000 in
theorem rt_script (s name : ByteArray) (n : Nat) (w : World) (hs : s.size ≤ 400000) (hps : name.size ≤ 400000) (hn : n ≤ s.size) :
    Calls Tryz.prog 15 #[.string s, .int .i64 n, .string name, .int .u8 3] w fun e w' => e = .returned (rawV s.data.toList n (Raw.smallN name.data.toList) 3) ∧ Below w.heap.size w w' := by
  have hsl := size_list s
  have d0 : decide ((n : Int) < 0) = false := decide_eq_false (by omega)
  have d1 : decide ((s.size : Int) < (n : Int)) = false := decide_eq_false (by omega)
  have d1N : decide (s.size < n) = false := decide_eq_false (by omega)
  have q1 : ((n : Int)).toNat = n := by omega
  have q2 : (0 : Int) ≤ (n : Int) := by omega
  have q3 : (n : Int) ≤ (s.size : Int) := by omega
  have HS := fun W => rscript_any s name n W (by omega) (by omega) hn
  have hf := Raw.far_form (Raw.smallN name.data.toList) 3 (s.data.toList.drop n)
  have hk : Raw.far (Raw.smallN name.data.toList) 3 (s.data.toList.drop n) = Raw.run (Raw.smallN name.data.toList) 0 0 (s.data.toList.drop n) := by unfold Raw.far; rw [if_neg (by decide), if_pos rfl]
  rw [hk, List.length_drop, hsl] at hf
  have hV := rawV_yes (by omega) (by decide) (by decide) hk
  generalize Raw.run (Raw.smallN name.data.toList) 0 0 (s.data.toList.drop n) = k at *
  obtain ⟨T, hT⟩ : ∃ T, n + k = T := ⟨_, rfl⟩
  rw [hT] at HS
  have hp := raw_piece s n k
  rw [hT] at hp
  have u1 : ((T : Int)).toNat = T := by omega
  have u2 : (0 : Int) ≤ (T : Int) := by omega
  have u3 : (T : Int) ≤ (s.size : Int) := by omega
  have u4 : (n : Int) ≤ (T : Int) := by omega
  have HR : Hid (Ending.returned (.tuple #[.string (s.extract n T), .int .i64 (T : Int)]) = .returned (rawV s.data.toList n (Raw.smallN name.data.toList) 3)) := hid (by
    rw [hV, hp, show (n : Int) + (k : Int) = (T : Int) by omega]
    rfl)
  generalize rawV s.data.toList n (Raw.smallN name.data.toList) 3 = V at *
  have HS := hid HS
  have u5 : n ≤ T := by omega
  have u6 : T ≤ s.size := by omega
  clear hk hV hp hsl hf hT
  go_enter Tryz.func15, Tryz.ntmps15
  go_wp2_with fail
  refine (HS.out _).mono ?_
  rintro e w1 ⟨rfl, b1⟩
  go_wp2
  go_returns
  exact ⟨HR.out, b1⟩
set_option maxHeartbeats 4000000 in
theorem rt_stop1 (s name : ByteArray) (n : Nat) (w : World) (hs : s.size ≤ 400000) (hps : name.size ≤ 400000) (hn : n ≤ s.size) :
    Calls Tryz.prog 15 #[.string s, .int .i64 n, .string name, .int .u8 1] w fun e w' => e = .returned (rawV s.data.toList n (Raw.smallN name.data.toList) 1) ∧ Below w.heap.size w w' := by
  have hsl := size_list s
  have d0 : decide ((n : Int) < 0) = false := decide_eq_false (by omega)
  have d1 : decide ((s.size : Int) < (n : Int)) = false := decide_eq_false (by omega)
  have d1N : decide (s.size < n) = false := decide_eq_false (by omega)
  have q1 : ((n : Int)).toNat = n := by omega
  have q2 : (0 : Int) ≤ (n : Int) := by omega
  have q3 : (n : Int) ≤ (s.size : Int) := by omega
  have HSL := hid hsl
  have HE := hid fun (k : Nat) (hk : k ≤ s.size) W => rends_any s name k W (by omega) (by omega) hk
  have hf := Raw.far_form (Raw.smallN name.data.toList) 1 (s.data.toList.drop n)
  have hk : Raw.far (Raw.smallN name.data.toList) 1 (s.data.toList.drop n) = Raw.stop (Raw.smallN name.data.toList) (s.data.toList.drop n) := by unfold Raw.far; rw [if_neg (by decide), if_neg (by decide)]
  rw [hk, List.length_drop, hsl] at hf
  have hV := rawV_yes (by omega) (by decide) (by decide) hk
  obtain ⟨k, hk2⟩ : ∃ k, Raw.stop (Raw.smallN name.data.toList) (s.data.toList.drop n) = k := ⟨_, rfl⟩
  rw [hk2] at hf hV
  obtain ⟨T, hT⟩ : ∃ T, n + k = T := ⟨_, rfl⟩
  have hp := raw_piece s n k
  rw [hT] at hp
  have hpl : (s.extract n T).data.toList = (s.data.toList.drop n).take k := by rw [hp]; rfl
  have HDc := fun W => rdecode_any (s.extract n T) false W (by rw [← size_list, hpl, List.length_take]; omega)
  rw [hpl] at HDc
  obtain ⟨Z, hZ⟩ : ∃ Z : ByteArray, (⟨(Ent.decode false ((s.data.toList.drop n).take k)).toArray⟩ : ByteArray) = Z := ⟨_, rfl⟩
  rw [hZ] at HDc
  have HDc := hid HDc
  have HR : Hid (Ending.returned (.tuple #[.string Z, .int .i64 (T : Int)]) = .returned (rawV s.data.toList n (Raw.smallN name.data.toList) 1)) := hid (by
    rw [hV, ← hZ, show (n : Int) + (k : Int) = (T : Int) by omega]
    rfl)
  clear hpl hZ
  have H0 : Hid (n + Raw.stop (Raw.smallN name.data.toList) (s.data.toList.drop n) = T) := hid (by rw [hk2]; exact hT)
  generalize rawV s.data.toList n (Raw.smallN name.data.toList) 1 = V at *
  obtain ⟨sm, hsm⟩ : ∃ sm, Raw.smallN name.data.toList = sm := ⟨_, rfl⟩
  rw [hsm] at HE H0
  have hTs : T ≤ s.size := by omega
  have hTn : n ≤ T := by omega
  clear hk hV hp hsl hf hT hk2 hsm
  go_enter Tryz.func15, Tryz.ntmps15
  go_wp2
  go_loopg [10] (s.size - n) (fun g iv wr => ∃ k : Nat, n ≤ k ∧ k ≤ s.size ∧ s.size - k ≤ g ∧ iv = .int .i64 k ∧ Hid (k + Raw.stop sm (s.data.toList.drop k) = T) ∧ Hid (Below w.heap.size w wr))
  case atStart => exact ⟨n, Nat.le_refl _, hn, Nat.le_refl _, rfl, H0, hid (Below.refl _ _)⟩
  case round =>
    obtain ⟨k, hnk, hks, hg, rfl, hI, hB⟩ := hrel
    have u1 : ((k : Int)).toNat = k := by omega
    have u2 : (0 : Int) ≤ (k : Int) := by omega
    have u3 : (k : Int) ≤ (s.size : Int) := by omega
    have u4 : (n : Int) ≤ (k : Int) := by omega
    by_cases hlt : k < s.size
    · have e1 : decide (k < s.size) = true := decide_eq_true hlt
      have hltI : (k : Int) < (s.size : Int) := by omega
      have E1 := fun W => HE.out k hks W
      cases he : Raw.endsB (s.data.toList.drop k) sm with
      | true =>
        rw [he] at E1
        have E1 := hid E1
        obtain rfl : k = T := by have h := hI.out; rw [Raw.stop_yes he] at h; omega
        clear he hI
        go_wp2_with fail
        refine (E1.out _).mono ?_
        rintro e w1 ⟨rfl, b1⟩
        have B1 := hid (hB.out.trans (b1.mono hB.out.size))
        clear b1
        go_wp2_with fail
        refine (HDc.out _).mono ?_
        rintro e w2 ⟨rfl, b2⟩
        have B2 := hid (B1.out.trans (b2.mono B1.out.size))
        clear b2
        go_wp2
        go_returns
        exact ⟨HR.out, B2.out⟩
      | false =>
        rw [he] at E1
        have E1 := hid E1
        have HN : Hid (k + 1 + Raw.stop sm (s.data.toList.drop (k + 1)) = T) := hid (by
          have h := hI.out
          rw [Raw.stop_no he (by rw [List.length_drop, HSL.out]; omega), List.drop_drop] at h
          omega)
        clear he hI
        go_wp2_with fail
        refine (E1.out _).mono ?_
        rintro e w1 ⟨rfl, b1⟩
        have B1 := hid (hB.out.trans (b1.mono hB.out.size))
        clear b1
        go_wp2
        go_roundg (s.size - (k + 1))
        case measure => omega
        case rel => exact ⟨k + 1, by omega, by omega, by omega, by go_num, HN, B1⟩
    · have e1 : decide (k < s.size) = false := decide_eq_false hlt
      have hltI : ¬ (k : Int) < (s.size : Int) := by omega
      obtain rfl : k = T := by
        have h := hI.out
        rw [List.drop_of_length_le (by rw [HSL.out]; omega)] at h
        exact h
      have B1 := hB
      clear hI
      go_wp2_with fail
      refine (HDc.out _).mono ?_
      rintro e w2 ⟨rfl, b2⟩
      have B2 := hid (B1.out.trans (b2.mono B1.out.size))
      clear b2
      go_wp2
      go_returns
      exact ⟨HR.out, B2.out⟩
set_option maxHeartbeats 4000000 in
theorem rt_stop2 (s name : ByteArray) (n : Nat) (w : World) (hs : s.size ≤ 400000) (hps : name.size ≤ 400000) (hn : n ≤ s.size) :
    Calls Tryz.prog 15 #[.string s, .int .i64 n, .string name, .int .u8 2] w fun e w' => e = .returned (rawV s.data.toList n (Raw.smallN name.data.toList) 2) ∧ Below w.heap.size w w' := by
  have hsl := size_list s
  have d0 : decide ((n : Int) < 0) = false := decide_eq_false (by omega)
  have d1 : decide ((s.size : Int) < (n : Int)) = false := decide_eq_false (by omega)
  have d1N : decide (s.size < n) = false := decide_eq_false (by omega)
  have q1 : ((n : Int)).toNat = n := by omega
  have q2 : (0 : Int) ≤ (n : Int) := by omega
  have q3 : (n : Int) ≤ (s.size : Int) := by omega
  have HSL := hid hsl
  have HE := hid fun (k : Nat) (hk : k ≤ s.size) W => rends_any s name k W (by omega) (by omega) hk
  have hf := Raw.far_form (Raw.smallN name.data.toList) 2 (s.data.toList.drop n)
  have hk : Raw.far (Raw.smallN name.data.toList) 2 (s.data.toList.drop n) = Raw.stop (Raw.smallN name.data.toList) (s.data.toList.drop n) := by unfold Raw.far; rw [if_neg (by decide), if_neg (by decide)]
  rw [hk, List.length_drop, hsl] at hf
  have hV := rawV_yes (by omega) (by decide) (by decide) hk
  obtain ⟨k, hk2⟩ : ∃ k, Raw.stop (Raw.smallN name.data.toList) (s.data.toList.drop n) = k := ⟨_, rfl⟩
  rw [hk2] at hf hV
  obtain ⟨T, hT⟩ : ∃ T, n + k = T := ⟨_, rfl⟩
  have hp := raw_piece s n k
  rw [hT] at hp
  have HR : Hid (Ending.returned (.tuple #[.string (s.extract n T), .int .i64 (T : Int)]) = .returned (rawV s.data.toList n (Raw.smallN name.data.toList) 2)) := hid (by
    rw [hV, hp, show (n : Int) + (k : Int) = (T : Int) by omega]
    rfl)
  have H0 : Hid (n + Raw.stop (Raw.smallN name.data.toList) (s.data.toList.drop n) = T) := hid (by rw [hk2]; exact hT)
  generalize rawV s.data.toList n (Raw.smallN name.data.toList) 2 = V at *
  obtain ⟨sm, hsm⟩ : ∃ sm, Raw.smallN name.data.toList = sm := ⟨_, rfl⟩
  rw [hsm] at HE H0
  have hTs : T ≤ s.size := by omega
  have hTn : n ≤ T := by omega
  clear hk hV hp hsl hf hT hk2 hsm
  go_enter Tryz.func15, Tryz.ntmps15
  go_wp2
  go_loopg [10] (s.size - n) (fun g iv wr => ∃ k : Nat, n ≤ k ∧ k ≤ s.size ∧ s.size - k ≤ g ∧ iv = .int .i64 k ∧ Hid (k + Raw.stop sm (s.data.toList.drop k) = T) ∧ Hid (Below w.heap.size w wr))
  case atStart => exact ⟨n, Nat.le_refl _, hn, Nat.le_refl _, rfl, H0, hid (Below.refl _ _)⟩
  case round =>
    obtain ⟨k, hnk, hks, hg, rfl, hI, hB⟩ := hrel
    have u1 : ((k : Int)).toNat = k := by omega
    have u2 : (0 : Int) ≤ (k : Int) := by omega
    have u3 : (k : Int) ≤ (s.size : Int) := by omega
    have u4 : (n : Int) ≤ (k : Int) := by omega
    by_cases hlt : k < s.size
    · have e1 : decide (k < s.size) = true := decide_eq_true hlt
      have hltI : (k : Int) < (s.size : Int) := by omega
      have E1 := fun W => HE.out k hks W
      cases he : Raw.endsB (s.data.toList.drop k) sm with
      | true =>
        rw [he] at E1
        have E1 := hid E1
        obtain rfl : k = T := by have h := hI.out; rw [Raw.stop_yes he] at h; omega
        clear he hI
        go_wp2_with fail
        refine (E1.out _).mono ?_
        rintro e w1 ⟨rfl, b1⟩
        have B1 := hid (hB.out.trans (b1.mono hB.out.size))
        clear b1
        go_wp2
        go_returns
        exact ⟨HR.out, B1.out⟩
      | false =>
        rw [he] at E1
        have E1 := hid E1
        have HN : Hid (k + 1 + Raw.stop sm (s.data.toList.drop (k + 1)) = T) := hid (by
          have h := hI.out
          rw [Raw.stop_no he (by rw [List.length_drop, HSL.out]; omega), List.drop_drop] at h
          omega)
        clear he hI
        go_wp2_with fail
        refine (E1.out _).mono ?_
        rintro e w1 ⟨rfl, b1⟩
        have B1 := hid (hB.out.trans (b1.mono hB.out.size))
        clear b1
        go_wp2
        go_roundg (s.size - (k + 1))
        case measure => omega
        case rel => exact ⟨k + 1, by omega, by omega, by omega, by go_num, HN, B1⟩
    · have e1 : decide (k < s.size) = false := decide_eq_false hlt
      have hltI : ¬ (k : Int) < (s.size : Int) := by omega
      obtain rfl : k = T := by
        have h := hI.out
        rw [List.drop_of_length_le (by rw [HSL.out]; omega)] at h
        exact h
      have B1 := hB
      clear hI
      go_wp2
      go_returns
      exact ⟨HR.out, B1.out⟩
theorem rtext_any (s name : ByteArray) (i : Int) (m : Nat) (w : World) (hs : s.size ≤ 400000) (hps : name.size ≤ 400000) (hm : m < 256) :
    Calls Tryz.prog 15 #[.string s, .int .i64 i, .string name, .int .u8 m] w fun e w' => e = .returned (rawV s.data.toList i (Raw.smallN name.data.toList) m) ∧ Below w.heap.size w w' := by
  by_cases h0 : i < 0
  · exact rt_neg s name i m w hs hps h0
  by_cases h1 : (s.size : Int) < i
  · exact rt_far s name i m w hs hps h0 h1
  by_cases h2 : m < 1
  · exact rt_low s name i m w hs hps h0 h1 h2
  by_cases h3 : 4 < m
  · exact rt_high s name i m w hs hps h0 h1 h3 hm
  obtain ⟨n, rfl⟩ : ∃ n : Nat, i = n := ⟨i.toNat, by omega⟩
  rcases (show m = 1 ∨ m = 2 ∨ m = 3 ∨ m = 4 by omega) with rfl | rfl | rfl | rfl
  · exact rt_stop1 s name n w hs hps (by omega)
  · exact rt_stop2 s name n w hs hps (by omega)
  · exact rt_script s name n w hs hps (by omega)
  · exact rt_plain s name n w hs hps (by omega)
end Go.Proofs.YtgldgdopabmefaaGreatDoor
