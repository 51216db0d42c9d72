/- Walks: package raw: Text, at any place, in any mode. Written by tools/gen_rawprog.py. -/
import Derived.Test.YtgldgdopabmefaaGreatDoorRawScr
import Derived.Test.YtgldgdopabmefaaGreatDoorLoopK
import Derived.Test.YtgldgdopabmefaaGreatDoorEntProg
namespace Go.Proofs.YtgldgdopabmefaaGreatDoor
open Go.RowKit Go.Lib
set_option maxRecDepth 100000
set_option linter.unusedVariables false

theorem rp_clone (s : ByteArray) (w : World) (hlim : s.size ≤ 281474976710656) :
    Calls Tryz.prog 28 #[.string s] w fun e w' => e = .returned (.string s) ∧ Below w.heap.size w w' := by
  have H := hid fun W => Tryz.stringslite_Clone s W hlim
  go_enter Tryz.func28, Tryz.ntmps28
  go_wp2_with fail
  refine (H.out _).mono ?_
  rintro e w1 ⟨rfl, b1⟩
  go_wp2
  go_ret
  exact ⟨rfl, b1⟩
theorem rp_mid (s : ByteArray) (n k : Nat) : s.extract n (n + k) = bs ((s.data.toList.drop n).take k) := by
  apply ByteArray.ext
  apply Array.ext'
  rw [extract_data, show n + k - n = k by omega]
  rfl
theorem rp_size (s : ByteArray) (a b : Nat) : (s.extract a b).size ≤ s.size := by
  rw [← size_list, extract_data, List.length_take, List.length_drop, size_list]
  omega
set_option maxHeartbeats 4000000 in
theorem pt_neg (s name : ByteArray) (i : Int) (m : Nat) (w : World) (h : i < 0) :
    Calls Tryz.prog 12 #[.string s, .int .i64 i, .string name, .int .u8 m] w fun e w' => e = .returned (rawV s.data.toList i (Raw.smallN name.data.toList) m) ∧ Below w.heap.size w w' := by
  rw [rawV_no (.inl h)]
  have d0 : decide (i < 0) = true := decide_eq_true h
  clear h
  go_enter Tryz.func12, Tryz.ntmps12
  go_wp2
  go_returns
  exact ⟨rfl, Below.refl _ _⟩
set_option maxHeartbeats 4000000 in
theorem pt_far (s name : ByteArray) (i : Int) (m : Nat) (w : World) (h0 : ¬ i < 0) (h : (s.size : Int) < i) :
    Calls Tryz.prog 12 #[.string s, .int .i64 i, .string name, .int .u8 m] w fun e w' => e = .returned (rawV s.data.toList i (Raw.smallN name.data.toList) m) ∧ Below w.heap.size w w' := by
  rw [rawV_no (.inr (.inl (by rw [size_list]; exact h)))]
  have d0 : decide (i < 0) = false := decide_eq_false h0
  have d1 : decide ((s.size : Int) < i) = true := decide_eq_true h
  clear h h0
  go_enter Tryz.func12, Tryz.ntmps12
  go_wp2
  go_returns
  exact ⟨rfl, Below.refl _ _⟩
set_option maxHeartbeats 4000000 in
theorem pt_other (s name : ByteArray) (n : Nat) (m : Nat) (w : World) (hW : EntW w) (hs : s.size ≤ 400000) (hps : name.size ≤ 400000) (hn : n ≤ s.size) (hm : m < 1 ∨ 4 < m) :
    Calls Tryz.prog 12 #[.string s, .int .i64 n, .string name, .int .u8 m] w fun e w' => e = .returned (rawV s.data.toList n (Raw.smallN name.data.toList) m) ∧ Below w.heap.size w w' := by
  have hsl := size_list s
  have hnl := size_list name
  have d0 : decide ((n : Int) < 0) = false := decide_eq_false (by omega)
  have d1 : decide ((s.size : Int) < (n : Int)) = false := decide_eq_false (by omega)
  have d1N : decide (s.size < n) = false := decide_eq_false (by omega)
  have q1 : ((n : Int)).toNat = n := by omega
  have q2 : (0 : Int) ≤ (n : Int) := by omega
  have q3 : (n : Int) ≤ (s.size : Int) := by omega
  have L := fun W => clower_any name W (by omega)
  obtain ⟨X, hX⟩ : ∃ X : ByteArray, (⟨(lowL name.data.toList).toArray⟩ : ByteArray) = X := ⟨_, rfl⟩
  rw [hX] at L
  have hXs : X.size = name.size := by rw [← hX, size_eq]; show (lowL name.data.toList).length = _; rw [lowL_len, hnl]
  obtain ⟨P, hP⟩ : ∃ P : ByteArray, (⟨#[60, 47]⟩ : ByteArray) ++ X = P := ⟨_, rfl⟩
  have hPl : P.data.toList = Raw.smallN name.data.toList := by
    rw [← hP, ByteArray.data_append, Array.toList_append, ← hX]
    rfl
  have hPs : P.size = 2 + name.size := by rw [← hP, ByteArray.size_append, hXs]; rfl
  have m1 : ¬ 9223372036854775807 < 2 + X.size := by omega
  have L := hid L
  have HP := hid hP
  have HW := hid hW
  have c4 : ((m : Int) == 4) = false := by simp; omega
  have c1 : ((m : Int) == 1) = false := by simp; omega
  have c2 : ((m : Int) == 2) = false := by simp; omega
  have c3 : ((m : Int) == 3) = false := by simp; omega
  have HC := hid fun W => rp_clone ByteArray.empty W (by decide)
  have HR : Hid (Value.tuple #[.string ByteArray.empty, .int .i64 n] = rawV s.data.toList n (Raw.smallN name.data.toList) m) := hid (by
    rw [rawV_no (by omega)]
    rfl)
  generalize rawV s.data.toList n (Raw.smallN name.data.toList) m = V at *
  clear hsl hnl hX hP hPl hPs hm
  go_enter Tryz.func12, Tryz.ntmps12
  go_wp2_with fail
  refine (L.out _).mono ?_
  rintro e w1 ⟨rfl, b1⟩
  go_wp2_with fail
  refine (HC.out _).mono ?_
  rintro e w2 ⟨rfl, b2⟩
  have B2 := hid (b1.trans (b2.mono b1.size))
  clear b1 b2
  go_wp2
  go_returns
  exact ⟨by rw [← HR.out]; first | done | rfl, B2.out⟩
set_option maxHeartbeats 4000000 in
theorem pt_refs (s name : ByteArray) (n : Nat) (w : World) (hW : EntW w) (hs : s.size ≤ 400000) (hps : name.size ≤ 400000) (hn : n ≤ s.size) :
    Calls Tryz.prog 12 #[.string s, .int .i64 n, .string name, .int .u8 1] w fun e w' => e = .returned (rawV s.data.toList n (Raw.smallN name.data.toList) 1) ∧ Below w.heap.size w w' := by
  have hsl := size_list s
  have hnl := size_list name
  have d0 : decide ((n : Int) < 0) = false := decide_eq_false (by omega)
  have d1 : decide ((s.size : Int) < (n : Int)) = false := decide_eq_false (by omega)
  have d1N : decide (s.size < n) = false := decide_eq_false (by omega)
  have q1 : ((n : Int)).toNat = n := by omega
  have q2 : (0 : Int) ≤ (n : Int) := by omega
  have q3 : (n : Int) ≤ (s.size : Int) := by omega
  have L := fun W => clower_any name W (by omega)
  obtain ⟨X, hX⟩ : ∃ X : ByteArray, (⟨(lowL name.data.toList).toArray⟩ : ByteArray) = X := ⟨_, rfl⟩
  rw [hX] at L
  have hXs : X.size = name.size := by rw [← hX, size_eq]; show (lowL name.data.toList).length = _; rw [lowL_len, hnl]
  obtain ⟨P, hP⟩ : ∃ P : ByteArray, (⟨#[60, 47]⟩ : ByteArray) ++ X = P := ⟨_, rfl⟩
  have hPl : P.data.toList = Raw.smallN name.data.toList := by
    rw [← hP, ByteArray.data_append, Array.toList_append, ← hX]
    rfl
  have hPs : P.size = 2 + name.size := by rw [← hP, ByteArray.size_append, hXs]; rfl
  have m1 : ¬ 9223372036854775807 < 2 + X.size := by omega
  have L := hid L
  have HP := hid hP
  have HW := hid hW
  have hf := (Raw.far_form (Raw.smallN name.data.toList) 1 (s.data.toList.drop n)).1
  have hk : Raw.far (Raw.smallN name.data.toList) 1 (s.data.toList.drop n) = Raw.stop (Raw.smallN name.data.toList) (s.data.toList.drop n) := by unfold Raw.far; rw [if_neg (by decide), if_neg (by decide)]
  have hV := rawV_yes (by omega) (by decide) (by decide) hk
  rw [hk, List.length_drop, hsl] at hf
  have HF := fun W => firsttag_any s P n W (by omega) (by omega) hn
  rw [hPl] at HF
  obtain ⟨k, hk2⟩ : ∃ k, Raw.stop (Raw.smallN name.data.toList) (s.data.toList.drop n) = k := ⟨_, rfl⟩
  rw [hk2] at hV HF hf
  obtain ⟨T, hT⟩ : ∃ T, n + k = T := ⟨_, rfl⟩
  rw [hT] at HF
  have HF := hid HF
  have hp := rp_mid s n k
  rw [hT] at hp
  have u1 : ((T : Int)).toNat = T := by omega
  have u2 : (0 : Int) ≤ (T : Int) := by omega
  have u3 : (T : Int) ≤ (s.size : Int) := by omega
  have u4 : (n : Int) ≤ (T : Int) := by omega
  have u5 : n ≤ T := by omega
  have u6 : T ≤ s.size := by omega
  have HC := hid fun W (hE : EntW W) => decode_any (s.extract n T) false W (by have := rp_size s n T; omega) hE
  have hpl : (s.extract n T).data.toList = (s.data.toList.drop n).take k := by rw [hp]; rfl
  rw [hpl] at HC
  obtain ⟨Z, hZ⟩ : ∃ Z : ByteArray, (⟨(Ent.decode false ((s.data.toList.drop n).take k)).toArray⟩ : ByteArray) = Z := ⟨_, rfl⟩
  rw [hZ] at HC
  have HR : Hid (Value.tuple #[.string Z, .int .i64 (T : Int)] = rawV s.data.toList n (Raw.smallN name.data.toList) 1) := hid (by
    rw [hV, ← hZ, show (n : Int) + (k : Int) = (T : Int) by omega]
    rfl)
  clear hpl hZ
  generalize rawV s.data.toList n (Raw.smallN name.data.toList) 1 = V at *
  clear hsl hnl hX hP hPl hPs hf hk hV hk2 hT hp hW
  go_enter Tryz.func12, Tryz.ntmps12
  go_wp2_with fail
  refine (L.out _).mono ?_
  rintro e w1 ⟨rfl, b1⟩
  go_wp2_with fail
  rw [HP.out]
  refine (HF.out _).mono ?_
  rintro e w2 ⟨rfl, b2⟩
  have B2 := hid (b1.trans (b2.mono b1.size))
  clear b1 b2
  go_wp2_with fail
  refine (HC.out _ (ent_below HW.out B2.out)).mono ?_
  rintro e w3 ⟨rfl, b3⟩
  have B3 := hid (B2.out.trans (b3.mono B2.out.size))
  clear b3
  go_wp2
  go_returns
  exact ⟨by rw [← HR.out]; first | done | rfl, B3.out⟩
set_option maxHeartbeats 4000000 in
theorem pt_raw (s name : ByteArray) (n : Nat) (w : World) (hW : EntW w) (hs : s.size ≤ 400000) (hps : name.size ≤ 400000) (hn : n ≤ s.size) :
    Calls Tryz.prog 12 #[.string s, .int .i64 n, .string name, .int .u8 2] w fun e w' => e = .returned (rawV s.data.toList n (Raw.smallN name.data.toList) 2) ∧ Below w.heap.size w w' := by
  have hsl := size_list s
  have hnl := size_list name
  have d0 : decide ((n : Int) < 0) = false := decide_eq_false (by omega)
  have d1 : decide ((s.size : Int) < (n : Int)) = false := decide_eq_false (by omega)
  have d1N : decide (s.size < n) = false := decide_eq_false (by omega)
  have q1 : ((n : Int)).toNat = n := by omega
  have q2 : (0 : Int) ≤ (n : Int) := by omega
  have q3 : (n : Int) ≤ (s.size : Int) := by omega
  have L := fun W => clower_any name W (by omega)
  obtain ⟨X, hX⟩ : ∃ X : ByteArray, (⟨(lowL name.data.toList).toArray⟩ : ByteArray) = X := ⟨_, rfl⟩
  rw [hX] at L
  have hXs : X.size = name.size := by rw [← hX, size_eq]; show (lowL name.data.toList).length = _; rw [lowL_len, hnl]
  obtain ⟨P, hP⟩ : ∃ P : ByteArray, (⟨#[60, 47]⟩ : ByteArray) ++ X = P := ⟨_, rfl⟩
  have hPl : P.data.toList = Raw.smallN name.data.toList := by
    rw [← hP, ByteArray.data_append, Array.toList_append, ← hX]
    rfl
  have hPs : P.size = 2 + name.size := by rw [← hP, ByteArray.size_append, hXs]; rfl
  have m1 : ¬ 9223372036854775807 < 2 + X.size := by omega
  have L := hid L
  have HP := hid hP
  have HW := hid hW
  have hf := (Raw.far_form (Raw.smallN name.data.toList) 2 (s.data.toList.drop n)).1
  have hk : Raw.far (Raw.smallN name.data.toList) 2 (s.data.toList.drop n) = Raw.stop (Raw.smallN name.data.toList) (s.data.toList.drop n) := by unfold Raw.far; rw [if_neg (by decide), if_neg (by decide)]
  have hV := rawV_yes (by omega) (by decide) (by decide) hk
  rw [hk, List.length_drop, hsl] at hf
  have HF := fun W => firsttag_any s P n W (by omega) (by omega) hn
  rw [hPl] at HF
  obtain ⟨k, hk2⟩ : ∃ k, Raw.stop (Raw.smallN name.data.toList) (s.data.toList.drop n) = k := ⟨_, rfl⟩
  rw [hk2] at hV HF hf
  obtain ⟨T, hT⟩ : ∃ T, n + k = T := ⟨_, rfl⟩
  rw [hT] at HF
  have HF := hid HF
  have hp := rp_mid s n k
  rw [hT] at hp
  have u1 : ((T : Int)).toNat = T := by omega
  have u2 : (0 : Int) ≤ (T : Int) := by omega
  have u3 : (T : Int) ≤ (s.size : Int) := by omega
  have u4 : (n : Int) ≤ (T : Int) := by omega
  have u5 : n ≤ T := by omega
  have u6 : T ≤ s.size := by omega
  have HC := hid fun W => rp_clone (s.extract n T) W (by have := rp_size s n T; omega)
  have HR : Hid (Value.tuple #[.string (s.extract n T), .int .i64 (T : Int)] = rawV s.data.toList n (Raw.smallN name.data.toList) 2) := hid (by
    rw [hV, hp, show (n : Int) + (k : Int) = (T : Int) by omega]
    rfl)
  generalize rawV s.data.toList n (Raw.smallN name.data.toList) 2 = V at *
  clear hsl hnl hX hP hPl hPs hf hk hV hk2 hT hp hW
  go_enter Tryz.func12, Tryz.ntmps12
  go_wp2_with fail
  refine (L.out _).mono ?_
  rintro e w1 ⟨rfl, b1⟩
  go_wp2_with fail
  rw [HP.out]
  refine (HF.out _).mono ?_
  rintro e w2 ⟨rfl, b2⟩
  have B2 := hid (b1.trans (b2.mono b1.size))
  clear b1 b2
  go_wp2_with fail
  refine (HC.out _).mono ?_
  rintro e w3 ⟨rfl, b3⟩
  have B3 := hid (B2.out.trans (b3.mono B2.out.size))
  clear b3
  go_wp2
  go_returns
  exact ⟨by rw [← HR.out]; first | done | rfl, B3.out⟩
set_option maxHeartbeats 4000000 in
theorem pt_script (s name : ByteArray) (n : Nat) (w : World) (hW : EntW w) (hs : s.size ≤ 400000) (hps : name.size ≤ 400000) (hn : n ≤ s.size) :
    Calls Tryz.prog 12 #[.string s, .int .i64 n, .string name, .int .u8 3] w fun e w' => e = .returned (rawV s.data.toList n (Raw.smallN name.data.toList) 3) ∧ Below w.heap.size w w' := by
  have hsl := size_list s
  have hnl := size_list name
  have d0 : decide ((n : Int) < 0) = false := decide_eq_false (by omega)
  have d1 : decide ((s.size : Int) < (n : Int)) = false := decide_eq_false (by omega)
  have d1N : decide (s.size < n) = false := decide_eq_false (by omega)
  have q1 : ((n : Int)).toNat = n := by omega
  have q2 : (0 : Int) ≤ (n : Int) := by omega
  have q3 : (n : Int) ≤ (s.size : Int) := by omega
  have L := fun W => clower_any name W (by omega)
  obtain ⟨X, hX⟩ : ∃ X : ByteArray, (⟨(lowL name.data.toList).toArray⟩ : ByteArray) = X := ⟨_, rfl⟩
  rw [hX] at L
  have hXs : X.size = name.size := by rw [← hX, size_eq]; show (lowL name.data.toList).length = _; rw [lowL_len, hnl]
  obtain ⟨P, hP⟩ : ∃ P : ByteArray, (⟨#[60, 47]⟩ : ByteArray) ++ X = P := ⟨_, rfl⟩
  have hPl : P.data.toList = Raw.smallN name.data.toList := by
    rw [← hP, ByteArray.data_append, Array.toList_append, ← hX]
    rfl
  have hPs : P.size = 2 + name.size := by rw [← hP, ByteArray.size_append, hXs]; rfl
  have m1 : ¬ 9223372036854775807 < 2 + X.size := by omega
  have L := hid L
  have HP := hid hP
  have HW := hid hW
  have hf := (Raw.far_form (Raw.smallN name.data.toList) 3 (s.data.toList.drop n)).1
  have hk : Raw.far (Raw.smallN name.data.toList) 3 (s.data.toList.drop n) = Raw.run (Raw.smallN name.data.toList) 0 0 (s.data.toList.drop n) := by unfold Raw.far; rw [if_neg (by decide), if_pos rfl]
  have hV := rawV_yes (by omega) (by decide) (by decide) hk
  rw [hk, List.length_drop, hsl] at hf
  have HF := fun W => scriptto_any s P n W (by omega) (by omega) hn
  rw [hPl] at HF
  obtain ⟨k, hk2⟩ : ∃ k, Raw.run (Raw.smallN name.data.toList) 0 0 (s.data.toList.drop n) = k := ⟨_, rfl⟩
  rw [hk2] at hV HF hf
  obtain ⟨T, hT⟩ : ∃ T, n + k = T := ⟨_, rfl⟩
  rw [hT] at HF
  have HF := hid HF
  have hp := rp_mid s n k
  rw [hT] at hp
  have u1 : ((T : Int)).toNat = T := by omega
  have u2 : (0 : Int) ≤ (T : Int) := by omega
  have u3 : (T : Int) ≤ (s.size : Int) := by omega
  have u4 : (n : Int) ≤ (T : Int) := by omega
  have u5 : n ≤ T := by omega
  have u6 : T ≤ s.size := by omega
  have HC := hid fun W => rp_clone (s.extract n T) W (by have := rp_size s n T; omega)
  have HR : Hid (Value.tuple #[.string (s.extract n T), .int .i64 (T : Int)] = rawV s.data.toList n (Raw.smallN name.data.toList) 3) := hid (by
    rw [hV, hp, show (n : Int) + (k : Int) = (T : Int) by omega]
    rfl)
  generalize rawV s.data.toList n (Raw.smallN name.data.toList) 3 = V at *
  clear hsl hnl hX hP hPl hPs hf hk hV hk2 hT hp hW
  go_enter Tryz.func12, Tryz.ntmps12
  go_wp2_with fail
  refine (L.out _).mono ?_
  rintro e w1 ⟨rfl, b1⟩
  go_wp2_with fail
  rw [HP.out]
  refine (HF.out _).mono ?_
  rintro e w2 ⟨rfl, b2⟩
  have B2 := hid (b1.trans (b2.mono b1.size))
  clear b1 b2
  go_wp2_with fail
  refine (HC.out _).mono ?_
  rintro e w3 ⟨rfl, b3⟩
  have B3 := hid (B2.out.trans (b3.mono B2.out.size))
  clear b3
  go_wp2
  go_returns
  exact ⟨by rw [← HR.out]; first | done | rfl, B3.out⟩
set_option maxHeartbeats 4000000 in
theorem pt_plain (s name : ByteArray) (n : Nat) (w : World) (hW : EntW w) (hs : s.size ≤ 400000) (hps : name.size ≤ 400000) (hn : n ≤ s.size) :
    Calls Tryz.prog 12 #[.string s, .int .i64 n, .string name, .int .u8 4] w fun e w' => e = .returned (rawV s.data.toList n (Raw.smallN name.data.toList) 4) ∧ Below w.heap.size w w' := by
  have hsl := size_list s
  have hnl := size_list name
  have d0 : decide ((n : Int) < 0) = false := decide_eq_false (by omega)
  have d1 : decide ((s.size : Int) < (n : Int)) = false := decide_eq_false (by omega)
  have d1N : decide (s.size < n) = false := decide_eq_false (by omega)
  have q1 : ((n : Int)).toNat = n := by omega
  have q2 : (0 : Int) ≤ (n : Int) := by omega
  have q3 : (n : Int) ≤ (s.size : Int) := by omega
  have L := fun W => clower_any name W (by omega)
  obtain ⟨X, hX⟩ : ∃ X : ByteArray, (⟨(lowL name.data.toList).toArray⟩ : ByteArray) = X := ⟨_, rfl⟩
  rw [hX] at L
  have hXs : X.size = name.size := by rw [← hX, size_eq]; show (lowL name.data.toList).length = _; rw [lowL_len, hnl]
  obtain ⟨P, hP⟩ : ∃ P : ByteArray, (⟨#[60, 47]⟩ : ByteArray) ++ X = P := ⟨_, rfl⟩
  have hPl : P.data.toList = Raw.smallN name.data.toList := by
    rw [← hP, ByteArray.data_append, Array.toList_append, ← hX]
    rfl
  have hPs : P.size = 2 + name.size := by rw [← hP, ByteArray.size_append, hXs]; rfl
  have m1 : ¬ 9223372036854775807 < 2 + X.size := by omega
  have L := hid L
  have HP := hid hP
  have HW := hid hW
  have hf := (Raw.far_form (Raw.smallN name.data.toList) 4 (s.data.toList.drop n)).1
  have hk : Raw.far (Raw.smallN name.data.toList) 4 (s.data.toList.drop n) = (s.data.toList.drop n).length := by unfold Raw.far; rw [if_pos rfl]
  have hV := rawV_yes (by omega) (by decide) (by decide) hk
  rw [hk, List.length_drop, hsl] at hf
  rw [List.length_drop, hsl] at hV
  obtain ⟨k, hk2⟩ : ∃ k, (s.size - n) = k := ⟨_, rfl⟩
  have hT : n + k = s.size := by omega
  rw [hk2] at hV
  have hp := rp_mid s n k
  rw [hT] at hp
  have HC := hid fun W => rp_clone (s.extract n s.size) W (by have := rp_size s n s.size; omega)
  have HR : Hid (Value.tuple #[.string (s.extract n s.size), .int .i64 (s.size : Int)] = rawV s.data.toList n (Raw.smallN name.data.toList) 4) := hid (by
    rw [hV, hp, show (n : Int) + (k : Int) = (s.size : Int) by omega]
    rfl)
  generalize rawV s.data.toList n (Raw.smallN name.data.toList) 4 = V at *
  clear hsl hnl hX hP hPl hPs hf hk hV hk2 hT hp hW
  go_enter Tryz.func12, Tryz.ntmps12
  go_wp2_with fail
  refine (L.out _).mono ?_
  rintro e w1 ⟨rfl, b1⟩
  go_wp2_with fail
  refine (HC.out _).mono ?_
  rintro e w2 ⟨rfl, b2⟩
  have B2 := hid (b1.trans (b2.mono b1.size))
  clear b1 b2
  go_wp2
  go_returns
  exact ⟨by rw [← HR.out]; first | done | rfl, B2.out⟩
/-- What the program's Text tells. -/
theorem rawC : RawC EntW := by
  intro s name i m w hW hs hps hm hi
  by_cases h0 : i < 0
  · exact pt_neg s name i m w h0
  by_cases h1 : (s.size : Int) < i
  · exact pt_far s name i m w h0 h1
  obtain ⟨n, rfl⟩ : ∃ n : Nat, i = n := ⟨i.toNat, by omega⟩
  have hn : n ≤ s.size := by omega
  rcases (show m = 1 ∨ m = 2 ∨ m = 3 ∨ m = 4 ∨ (m < 1 ∨ 4 < m) by omega) with rfl | rfl | rfl | rfl | h
  · exact pt_refs s name n w hW hs hps hn
  · exact pt_raw s name n w hW hs hps hn
  · exact pt_script s name n w hW hs hps hn
  · exact pt_plain s name n w hW hs hps hn
  · exact pt_other s name n m w hW hs hps hn h
end Go.Proofs.YtgldgdopabmefaaGreatDoor
