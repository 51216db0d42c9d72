/- Walks: utf's piece: how many broken bytes go together. -/
import Derived.Test.YtjliphkpmpcjaaaDoorFull
namespace Go.Proofs.YtjliphkpmpcjaaaDoor
open Go.RowKit Go.Lib
set_option maxRecDepth 100000
set_option linter.unusedVariables false

theorem extract_list (s : ByteArray) (k : Nat) : (s.extract 0 k).data.toList = s.data.toList.take k := by
  rw [extract_data, List.drop_zero, Nat.sub_zero]
theorem size_extract0 (s : ByteArray) (k : Nat) (h : k ≤ s.size) : (s.extract 0 k).size = k := by
  rw [size_eq, extract_list, List.length_take, ← size_eq]; omega
theorem size_list (s : ByteArray) : s.data.toList.length = s.size := (size_eq s).symm

/-- FullRuneInString of the first k bytes. -/
theorem full_at (s : ByteArray) (k : Nat) (v : Bool) (hk : 2 ≤ k) (hs : k ≤ s.size) (hv : U8.fullN k (U8.B s.data.toList 0) (U8.B s.data.toList 1) (U8.B s.data.toList 2) = v) (w : World) (hT : Tabs w) :
    Calls Tryd.prog 35 #[.string (s.extract 0 k)] w fun e w' => e = .returned (.bool v) ∧ Below w.heap.size w w' := by
  have h1 := size_extract0 s k hs
  refine (full_any (s.extract 0 k) w (by omega) hT).mono fun e w' ⟨he, hb⟩ => ⟨?_, hb⟩
  rw [he, extract_list, h1]
  rw [U8.B_take _ _ _ (by omega), U8.B_take _ _ _ (by omega)]
  have : U8.fullN k (U8.B s.data.toList 0) (U8.B s.data.toList 1) (U8.B (s.data.toList.take k) 2) = v := by
    rw [← hv]
    by_cases h3 : 2 < k
    · rw [U8.B_take _ _ _ h3]
    · unfold U8.fullN; simp [h3]
  rw [this]

set_option maxHeartbeats 400000 in
theorem piece_1 (s : ByteArray) (w : World) (hs : s.size = 1) : Calls Tryd.prog 23 #[.string s] w fun e w' => e = .returned (.int .i64 1) ∧ Below w.heap.size w w' := by
  have hd : decide ((1 : Int) < (s.size : Int)) = false := by simp; omega
  clear hs
  go_enter Tryd.func23, Tryd.ntmps23
  go_wp2
  refine wp_loop_rounds 1 ?_
  rw [rounds_succ]
  go_wp2
  go_ret
  exact ⟨rfl, Below.refl _ _⟩

set_option maxHeartbeats 400000 in
theorem piece_2 (s : ByteArray) (w : World) (hs : 2 ≤ s.size) (hT : Tabs w) (hf2 : U8.fullN 2 (U8.B s.data.toList 0) (U8.B s.data.toList 1) (U8.B s.data.toList 2) = true) :
    Calls Tryd.prog 23 #[.string s] w fun e w' => e = .returned (.int .i64 1) ∧ Below w.heap.size w w' := by
  have F2 := hid (full_at s 2 _ (by omega) (by omega) hf2)
  have hd1 : decide ((1 : Int) < (s.size : Int)) = true := by simp; omega
  have hd1' : (1 : Int) < (s.size : Int) := by omega
  have hc2 : (2 : Int) ≤ (s.size : Int) := by omega
  clear hf2
  go_enter Tryd.func23, Tryd.ntmps23
  go_wp2
  refine wp_loop_rounds 1 ?_
  rw [rounds_succ]
  go_wp2_with fail
  refine (F2.out _ hT).mono ?_
  rintro e w1 ⟨rfl, b1⟩
  go_wp2_with fail
  go_ret
  exact ⟨rfl, b1⟩

set_option maxHeartbeats 400000 in
theorem piece_3 (s : ByteArray) (w : World) (hs : s.size = 2) (hT : Tabs w) (hf2 : U8.fullN 2 (U8.B s.data.toList 0) (U8.B s.data.toList 1) (U8.B s.data.toList 2) = false) :
    Calls Tryd.prog 23 #[.string s] w fun e w' => e = .returned (.int .i64 2) ∧ Below w.heap.size w w' := by
  have F2 := hid (full_at s 2 _ (by omega) (by omega) hf2)
  have hd1 : decide ((1 : Int) < (s.size : Int)) = true := by simp; omega
  have hd1' : (1 : Int) < (s.size : Int) := by omega
  have hc2 : (2 : Int) ≤ (s.size : Int) := by omega
  clear hf2
  have hn : decide ((2 : Int) < (s.size : Int)) = false := by simp; omega
  clear hs
  go_enter Tryd.func23, Tryd.ntmps23
  go_wp2
  refine wp_loop_rounds 2 ?_
  rw [rounds_succ]
  go_wp2_with fail
  refine (F2.out _ hT).mono ?_
  rintro e w1 ⟨rfl, b1⟩
  go_wp2_with fail
  rw [rounds_succ]
  go_wp2_with fail
  go_ret
  exact ⟨rfl, b1⟩

set_option maxHeartbeats 400000 in
theorem piece_4 (s : ByteArray) (w : World) (hs : 3 ≤ s.size) (hT : Tabs w) (hf2 : U8.fullN 2 (U8.B s.data.toList 0) (U8.B s.data.toList 1) (U8.B s.data.toList 2) = false) (hf3 : U8.fullN 3 (U8.B s.data.toList 0) (U8.B s.data.toList 1) (U8.B s.data.toList 2) = true) :
    Calls Tryd.prog 23 #[.string s] w fun e w' => e = .returned (.int .i64 2) ∧ Below w.heap.size w w' := by
  have F2 := hid (full_at s 2 _ (by omega) (by omega) hf2)
  have F3 := hid (full_at s 3 _ (by omega) (by omega) hf3)
  have hd1 : decide ((1 : Int) < (s.size : Int)) = true := by simp; omega
  have hd1' : (1 : Int) < (s.size : Int) := by omega
  have hd2 : decide ((2 : Int) < (s.size : Int)) = true := by simp; omega
  have hd2' : (2 : Int) < (s.size : Int) := by omega
  have hc2 : (2 : Int) ≤ (s.size : Int) := by omega
  have hc3 : (3 : Int) ≤ (s.size : Int) := by omega
  clear hf2 hf3
  go_enter Tryd.func23, Tryd.ntmps23
  go_wp2
  refine wp_loop_rounds 2 ?_
  rw [rounds_succ]
  go_wp2_with fail
  refine (F2.out _ hT).mono ?_
  rintro e w1 ⟨rfl, b1⟩
  go_wp2_with fail
  rw [rounds_succ]
  go_wp2_with fail
  refine (F3.out _ (Utf8Tabs_below hT b1)).mono ?_
  rintro e w2 ⟨rfl, b2⟩
  go_wp2_with fail
  go_ret
  exact ⟨rfl, b1.trans (b2.mono b1.size)⟩

set_option maxHeartbeats 400000 in
theorem piece_5 (s : ByteArray) (w : World) (hs : s.size = 3) (hT : Tabs w) (hf2 : U8.fullN 2 (U8.B s.data.toList 0) (U8.B s.data.toList 1) (U8.B s.data.toList 2) = false) (hf3 : U8.fullN 3 (U8.B s.data.toList 0) (U8.B s.data.toList 1) (U8.B s.data.toList 2) = false) :
    Calls Tryd.prog 23 #[.string s] w fun e w' => e = .returned (.int .i64 3) ∧ Below w.heap.size w w' := by
  have F2 := hid (full_at s 2 _ (by omega) (by omega) hf2)
  have F3 := hid (full_at s 3 _ (by omega) (by omega) hf3)
  have hd1 : decide ((1 : Int) < (s.size : Int)) = true := by simp; omega
  have hd1' : (1 : Int) < (s.size : Int) := by omega
  have hd2 : decide ((2 : Int) < (s.size : Int)) = true := by simp; omega
  have hd2' : (2 : Int) < (s.size : Int) := by omega
  have hc2 : (2 : Int) ≤ (s.size : Int) := by omega
  have hc3 : (3 : Int) ≤ (s.size : Int) := by omega
  clear hf2 hf3
  have hn : decide ((3 : Int) < (s.size : Int)) = false := by simp; omega
  clear hs
  go_enter Tryd.func23, Tryd.ntmps23
  go_wp2
  refine wp_loop_rounds 3 ?_
  rw [rounds_succ]
  go_wp2_with fail
  refine (F2.out _ hT).mono ?_
  rintro e w1 ⟨rfl, b1⟩
  go_wp2_with fail
  rw [rounds_succ]
  go_wp2_with fail
  refine (F3.out _ (Utf8Tabs_below hT b1)).mono ?_
  rintro e w2 ⟨rfl, b2⟩
  go_wp2_with fail
  rw [rounds_succ]
  go_wp2_with fail
  go_ret
  exact ⟨rfl, b1.trans (b2.mono b1.size)⟩

set_option maxHeartbeats 400000 in
theorem piece_6 (s : ByteArray) (w : World) (hs : 4 ≤ s.size) (hT : Tabs w) (hf2 : U8.fullN 2 (U8.B s.data.toList 0) (U8.B s.data.toList 1) (U8.B s.data.toList 2) = false) (hf3 : U8.fullN 3 (U8.B s.data.toList 0) (U8.B s.data.toList 1) (U8.B s.data.toList 2) = false) (hf4 : U8.fullN 4 (U8.B s.data.toList 0) (U8.B s.data.toList 1) (U8.B s.data.toList 2) = true) :
    Calls Tryd.prog 23 #[.string s] w fun e w' => e = .returned (.int .i64 3) ∧ Below w.heap.size w w' := by
  have F2 := hid (full_at s 2 _ (by omega) (by omega) hf2)
  have F3 := hid (full_at s 3 _ (by omega) (by omega) hf3)
  have F4 := hid (full_at s 4 _ (by omega) (by omega) hf4)
  have hd1 : decide ((1 : Int) < (s.size : Int)) = true := by simp; omega
  have hd1' : (1 : Int) < (s.size : Int) := by omega
  have hd2 : decide ((2 : Int) < (s.size : Int)) = true := by simp; omega
  have hd2' : (2 : Int) < (s.size : Int) := by omega
  have hd3 : decide ((3 : Int) < (s.size : Int)) = true := by simp; omega
  have hd3' : (3 : Int) < (s.size : Int) := by omega
  have hc2 : (2 : Int) ≤ (s.size : Int) := by omega
  have hc3 : (3 : Int) ≤ (s.size : Int) := by omega
  have hc4 : (4 : Int) ≤ (s.size : Int) := by omega
  clear hf2 hf3 hf4
  go_enter Tryd.func23, Tryd.ntmps23
  go_wp2
  refine wp_loop_rounds 3 ?_
  rw [rounds_succ]
  go_wp2_with fail
  refine (F2.out _ hT).mono ?_
  rintro e w1 ⟨rfl, b1⟩
  go_wp2_with fail
  rw [rounds_succ]
  go_wp2_with fail
  refine (F3.out _ (Utf8Tabs_below hT b1)).mono ?_
  rintro e w2 ⟨rfl, b2⟩
  go_wp2_with fail
  rw [rounds_succ]
  go_wp2_with fail
  refine (F4.out _ (Utf8Tabs_below (Utf8Tabs_below hT b1) b2)).mono ?_
  rintro e w3 ⟨rfl, b3⟩
  go_wp2_with fail
  go_ret
  exact ⟨rfl, b1.trans ((b2.trans (b3.mono b2.size)).mono b1.size)⟩

theorem piece_any (s : ByteArray) (w : World) (hz : 0 < s.size) (hT : Tabs w) :
    Calls Tryd.prog 23 #[.string s] w fun e w' => e = .returned (.int .i64 (U8.piece s.data.toList)) ∧ Below w.heap.size w w' := by
  unfold U8.piece U8.pieceN
  rw [size_list]
  by_cases h1 : s.size ≤ 1
  · rw [if_pos (.inl h1)]
    exact piece_1 s w (by omega)
  cases f2 : U8.fullN 2 (U8.B s.data.toList 0) (U8.B s.data.toList 1) (U8.B s.data.toList 2) with
  | true =>
    rw [if_pos (.inr rfl)]
    exact piece_2 s w (by omega) hT f2
  | false =>
    rw [if_neg (by simp; omega)]
    by_cases h2 : s.size ≤ 2
    · rw [if_pos (.inl h2)]
      exact piece_3 s w (by omega) hT f2
    cases f3 : U8.fullN 3 (U8.B s.data.toList 0) (U8.B s.data.toList 1) (U8.B s.data.toList 2) with
    | true =>
      rw [if_pos (.inr rfl)]
      exact piece_4 s w (by omega) hT f2 f3
    | false =>
      rw [if_neg (by simp; omega)]
      by_cases h3 : s.size ≤ 3
      · exact piece_5 s w (by omega) hT f2 f3
      · refine piece_6 s w (by omega) hT f2 f3 ?_
        have := firstT_cases (U8.B s.data.toList 0)
        unfold U8.fullN
        rw [decide_eq_true (by omega), Bool.true_or, Bool.true_or]
end Go.Proofs.YtjliphkpmpcjaaaDoor
