/- Walks over the reference of layer 1: front: how many of the first bytes are the beginning of a character. -/
import Derived.Test.YthfaogodiefefaaDoorRef
namespace Go.Proofs.YthfaogodiefefaaDoor
open Go.RowKit Go.Lib
set_option maxRecDepth 100000
set_option linter.unusedVariables false

theorem second_yes {a b : Nat} (h : U8.sec a b = true) (w : World) :
    Calls Tryd.prog 60 #[.int .u8 a, .int .u8 b] w fun e w' => e = .returned (.bool true) ∧ w' = w :=
  (second_any a b w).mono fun _ _ ⟨h1, h2⟩ => ⟨by rw [h1, h], h2.symm⟩
theorem second_no {a b : Nat} (h : U8.sec a b = false) (w : World) :
    Calls Tryd.prog 60 #[.int .u8 a, .int .u8 b] w fun e w' => e = .returned (.bool false) ∧ w' = w :=
  (second_any a b w).mono fun _ _ ⟨h1, h2⟩ => ⟨by rw [h1, h], h2.symm⟩

/-- One byte is enough, or begins nothing. -/
theorem front_one (b off n cap b0 : Nat) (hb : b0 < 256) (hm : b0 < 194 ∨ 244 < b0) (w : World) (hn : 1 ≤ n) (hc : n ≤ cap) (hcap : cap ≤ 9223372036854775807) (c0 : w.cell? ⟨b, off, none⟩ = some (.int .u8 (b0 : Nat))) :
    Calls Tryd.prog 53 #[.slice (some ⟨b, off, none⟩) n cap] w fun e w' => e = .returned (.tuple #[.int .i64 1, .bool (decide (b0 < 128))]) ∧ w' = w := by
  have hn' : (0 : Int) < (n : Int) := by omega
  rcases (show b0 < 128 ∨ (128 ≤ b0 ∧ (b0 < 194 ∨ 244 < b0)) by omega) with h | ⟨h, h'⟩
  · rw [decide_eq_true h]
    have em : U8.many b0 = 1 := by simp [U8.many, h]
    have hq := many_any b0 hb
    rw [em] at hq
    clear hm em h
    go_enter Tryd.func53, Tryd.ntmps53
    go_wp2_with (go_at_call 59; refine (hq _).mono ?_; rintro e w' ⟨rfl, rfl⟩)
    refine wp_loop_rounds 1 ?_
    rw [rounds_succ]
    go_wp2
    go_ret2
    exact ⟨rfl, rfl⟩
  · rw [decide_eq_false (by omega)]
    have em : U8.many b0 = 0 := by simp only [U8.many]; (repeat' split) <;> omega
    have hq := many_any b0 hb
    rw [em] at hq
    clear hm em h
    go_enter Tryd.func53, Tryd.ntmps53
    go_wp2_with (go_at_call 59; refine (hq _).mono ?_; rintro e w' ⟨rfl, rfl⟩)
    go_ret2
    exact ⟨rfl, rfl⟩

set_option maxHeartbeats 400000 in
theorem front_s1 (b off n cap b0 b1 b2 b3 : Nat) (m : Nat) (hm : U8.many b0 = m) (hm2 : 2 ≤ m) (hm4 : m ≤ 4) (hb : b0 < 256) (w : World) (hn : n = 1) (hc : n ≤ cap) (hcap : cap ≤ 9223372036854775807) (c0 : w.cell? ⟨b, off, none⟩ = some (.int .u8 (b0 : Nat)))  :
    Calls Tryd.prog 53 #[.slice (some ⟨b, off, none⟩) n cap] w fun e w' => e = .returned (.tuple #[.int .i64 1, .bool false]) ∧ ∃ k, w' = w.drewN k := by
  subst hn
  have hn0 : (0 : Int) < 1 := by omega
  have hq := many_any b0 hb
  rw [hm] at hq
  have hm0 : ((m : Int) == 0) = false := by simp; omega
  have hm1 : (1 : Int) < (m : Int) := by omega
  have hq1 : ((1 : Int) == (m : Int)) = false := by simp; omega
  clear hm
  go_enter Tryd.func53, Tryd.ntmps53
  go_wp2_with (go_at_call 59; refine (hq _).mono ?_; rintro e w' ⟨rfl, rfl⟩)
  refine wp_loop_rounds 1 ?_
  rw [rounds_succ]
  go_wp2
  go_ret2
  exact ⟨rfl, ⟨0, rfl⟩⟩

set_option maxHeartbeats 400000 in
theorem front_s2 (b off n cap b0 b1 b2 b3 : Nat) (m : Nat) (hm : U8.many b0 = m) (hm2 : 2 ≤ m) (hm4 : m ≤ 4) (hb : b0 < 256) (w : World) (hn : 1 < n) (hc : n ≤ cap) (hcap : cap ≤ 9223372036854775807) (c0 : w.cell? ⟨b, off, none⟩ = some (.int .u8 (b0 : Nat))) (c1 : w.cell? ⟨b, off + 1, none⟩ = some (.int .u8 (b1 : Nat))) (hs : U8.sec b0 b1 = false) :
    Calls Tryd.prog 53 #[.slice (some ⟨b, off, none⟩) n cap] w fun e w' => e = .returned (.tuple #[.int .i64 1, .bool false]) ∧ ∃ k, w' = w.drewN k := by
  have hn0 : (0 : Int) < (n : Int) := by omega
  have hq := many_any b0 hb
  rw [hm] at hq
  have hm0 : ((m : Int) == 0) = false := by simp; omega
  have hm1 : (1 : Int) < (m : Int) := by omega
  have hn1 : (1 : Int) < (n : Int) := by omega
  clear hm
  go_enter Tryd.func53, Tryd.ntmps53
  go_wp2_with (go_at_call 59; refine (hq _).mono ?_; rintro e w' ⟨rfl, rfl⟩)
  refine wp_loop_rounds 1 ?_
  rw [rounds_succ]
  go_wp2
  go_quiet ((go_at_call 60; exact Calls.quiet_of_same (second_no hs _)))
  go_wp2
  go_ret2
  refine ⟨rfl, ?_⟩
  first | exact ⟨_, rfl⟩ | (simp only [World.drewN_drewN]; exact ⟨_, rfl⟩)

set_option maxHeartbeats 400000 in
theorem front_s3 (b off n cap b0 b1 b2 b3 : Nat) (hm : U8.many b0 = 2) (hb : b0 < 256) (w : World) (hn : 1 < n) (hc : n ≤ cap) (hcap : cap ≤ 9223372036854775807) (c0 : w.cell? ⟨b, off, none⟩ = some (.int .u8 (b0 : Nat))) (c1 : w.cell? ⟨b, off + 1, none⟩ = some (.int .u8 (b1 : Nat))) (hs : U8.sec b0 b1 = true) :
    Calls Tryd.prog 53 #[.slice (some ⟨b, off, none⟩) n cap] w fun e w' => e = .returned (.tuple #[.int .i64 2, .bool true]) ∧ ∃ k, w' = w.drewN k := by
  have hn0 : (0 : Int) < (n : Int) := by omega
  have hq := many_any b0 hb
  rw [hm] at hq
  have hn1 : (1 : Int) < (n : Int) := by omega
  clear hm
  go_enter Tryd.func53, Tryd.ntmps53
  go_wp2_with (go_at_call 59; refine (hq _).mono ?_; rintro e w' ⟨rfl, rfl⟩)
  refine wp_loop_rounds 2 ?_
  rw [rounds_succ]
  go_wp2
  go_quiet ((go_at_call 60; exact Calls.quiet_of_same (second_yes hs _)))
  go_wp2
  rw [rounds_succ]
  go_wp2
  go_ret2
  refine ⟨rfl, ?_⟩
  first | exact ⟨_, rfl⟩ | (simp only [World.drewN_drewN]; exact ⟨_, rfl⟩)

set_option maxHeartbeats 400000 in
theorem front_s4 (b off n cap b0 b1 b2 b3 : Nat) (m : Nat) (hm : U8.many b0 = m) (hm2 : 3 ≤ m) (hm4 : m ≤ 4) (hb : b0 < 256) (w : World) (hn : n = 2) (hc : n ≤ cap) (hcap : cap ≤ 9223372036854775807) (c0 : w.cell? ⟨b, off, none⟩ = some (.int .u8 (b0 : Nat))) (c1 : w.cell? ⟨b, off + 1, none⟩ = some (.int .u8 (b1 : Nat))) (hs : U8.sec b0 b1 = true) :
    Calls Tryd.prog 53 #[.slice (some ⟨b, off, none⟩) n cap] w fun e w' => e = .returned (.tuple #[.int .i64 2, .bool false]) ∧ ∃ k, w' = w.drewN k := by
  subst hn
  have hn0 : (0 : Int) < 2 := by omega
  have hq := many_any b0 hb
  rw [hm] at hq
  have hm0 : ((m : Int) == 0) = false := by simp; omega
  have hm1 : (1 : Int) < (m : Int) := by omega
  have hm2' : (2 : Int) < (m : Int) := by omega
  have hq1 : ((2 : Int) == (m : Int)) = false := by simp; omega
  clear hm
  go_enter Tryd.func53, Tryd.ntmps53
  go_wp2_with (go_at_call 59; refine (hq _).mono ?_; rintro e w' ⟨rfl, rfl⟩)
  refine wp_loop_rounds 2 ?_
  rw [rounds_succ]
  go_wp2
  go_quiet ((go_at_call 60; exact Calls.quiet_of_same (second_yes hs _)))
  go_wp2
  rw [rounds_succ]
  go_wp2
  go_ret2
  refine ⟨rfl, ?_⟩
  first | exact ⟨_, rfl⟩ | (simp only [World.drewN_drewN]; exact ⟨_, rfl⟩)

set_option maxHeartbeats 400000 in
theorem front_s5a (b off n cap b0 b1 b2 b3 : Nat) (m : Nat) (hm : U8.many b0 = m) (hm2 : 3 ≤ m) (hm4 : m ≤ 4) (hb : b0 < 256) (w : World) (hn : 2 < n) (hc : n ≤ cap) (hcap : cap ≤ 9223372036854775807) (c0 : w.cell? ⟨b, off, none⟩ = some (.int .u8 (b0 : Nat))) (c1 : w.cell? ⟨b, off + 1, none⟩ = some (.int .u8 (b1 : Nat))) (c2 : w.cell? ⟨b, off + 2, none⟩ = some (.int .u8 (b2 : Nat))) (hs : U8.sec b0 b1 = true) (h2 : b2 < 128) :
    Calls Tryd.prog 53 #[.slice (some ⟨b, off, none⟩) n cap] w fun e w' => e = .returned (.tuple #[.int .i64 2, .bool false]) ∧ ∃ k, w' = w.drewN k := by
  have hn0 : (0 : Int) < (n : Int) := by omega
  have hq := many_any b0 hb
  rw [hm] at hq
  have hm0 : ((m : Int) == 0) = false := by simp; omega
  have hm1 : (1 : Int) < (m : Int) := by omega
  have hm2' : (2 : Int) < (m : Int) := by omega
  have hn1 : (1 : Int) < (n : Int) := by omega
  have hn2 : (2 : Int) < (n : Int) := by omega
  have h2' : (b2 : Int) < 128 := by omega
  clear hm
  go_enter Tryd.func53, Tryd.ntmps53
  go_wp2_with (go_at_call 59; refine (hq _).mono ?_; rintro e w' ⟨rfl, rfl⟩)
  refine wp_loop_rounds 2 ?_
  rw [rounds_succ]
  go_wp2
  go_quiet ((go_at_call 60; exact Calls.quiet_of_same (second_yes hs _)))
  go_wp2
  rw [rounds_succ]
  go_wp2
  go_quiet (fail)
  go_wp2
  go_ret2
  refine ⟨rfl, ?_⟩
  first | exact ⟨_, rfl⟩ | (simp only [World.drewN_drewN]; exact ⟨_, rfl⟩)

set_option maxHeartbeats 400000 in
theorem front_s5b (b off n cap b0 b1 b2 b3 : Nat) (m : Nat) (hm : U8.many b0 = m) (hm2 : 3 ≤ m) (hm4 : m ≤ 4) (hb : b0 < 256) (w : World) (hn : 2 < n) (hc : n ≤ cap) (hcap : cap ≤ 9223372036854775807) (c0 : w.cell? ⟨b, off, none⟩ = some (.int .u8 (b0 : Nat))) (c1 : w.cell? ⟨b, off + 1, none⟩ = some (.int .u8 (b1 : Nat))) (c2 : w.cell? ⟨b, off + 2, none⟩ = some (.int .u8 (b2 : Nat))) (hs : U8.sec b0 b1 = true) (h2 : 191 < b2) :
    Calls Tryd.prog 53 #[.slice (some ⟨b, off, none⟩) n cap] w fun e w' => e = .returned (.tuple #[.int .i64 2, .bool false]) ∧ ∃ k, w' = w.drewN k := by
  have hn0 : (0 : Int) < (n : Int) := by omega
  have hq := many_any b0 hb
  rw [hm] at hq
  have hm0 : ((m : Int) == 0) = false := by simp; omega
  have hm1 : (1 : Int) < (m : Int) := by omega
  have hm2' : (2 : Int) < (m : Int) := by omega
  have hn1 : (1 : Int) < (n : Int) := by omega
  have hn2 : (2 : Int) < (n : Int) := by omega
  have h2' : (191 : Int) < (b2 : Int) := by omega
  have h2d : decide ((b2 : Int) < 128) = false := by simp; omega
  have h2e : decide ((191 : Int) < (b2 : Int)) = true := by simp; omega
  clear hm
  go_enter Tryd.func53, Tryd.ntmps53
  go_wp2_with (go_at_call 59; refine (hq _).mono ?_; rintro e w' ⟨rfl, rfl⟩)
  refine wp_loop_rounds 2 ?_
  rw [rounds_succ]
  go_wp2
  go_quiet ((go_at_call 60; exact Calls.quiet_of_same (second_yes hs _)))
  go_wp2
  rw [rounds_succ]
  go_wp2
  go_quiet (fail)
  go_wp2
  go_ret2
  refine ⟨rfl, ?_⟩
  first | exact ⟨_, rfl⟩ | (simp only [World.drewN_drewN]; exact ⟨_, rfl⟩)

set_option maxHeartbeats 400000 in
theorem front_s6 (b off n cap b0 b1 b2 b3 : Nat) (hm : U8.many b0 = 3) (hb : b0 < 256) (w : World) (hn : 2 < n) (hc : n ≤ cap) (hcap : cap ≤ 9223372036854775807) (c0 : w.cell? ⟨b, off, none⟩ = some (.int .u8 (b0 : Nat))) (c1 : w.cell? ⟨b, off + 1, none⟩ = some (.int .u8 (b1 : Nat))) (c2 : w.cell? ⟨b, off + 2, none⟩ = some (.int .u8 (b2 : Nat))) (hs : U8.sec b0 b1 = true) (h2 : 128 ≤ b2 ∧ b2 ≤ 191) :
    Calls Tryd.prog 53 #[.slice (some ⟨b, off, none⟩) n cap] w fun e w' => e = .returned (.tuple #[.int .i64 3, .bool true]) ∧ ∃ k, w' = w.drewN k := by
  have hn0 : (0 : Int) < (n : Int) := by omega
  have hq := many_any b0 hb
  rw [hm] at hq
  have hn1 : (1 : Int) < (n : Int) := by omega
  have hn2 : (2 : Int) < (n : Int) := by omega
  have h2a : (128 : Int) ≤ (b2 : Int) := by omega
  have h2b : (b2 : Int) ≤ 191 := by omega
  have h2d : decide ((b2 : Int) < 128) = false := by simp; omega
  have h2e : decide ((191 : Int) < (b2 : Int)) = false := by simp; omega
  clear hm
  go_enter Tryd.func53, Tryd.ntmps53
  go_wp2_with (go_at_call 59; refine (hq _).mono ?_; rintro e w' ⟨rfl, rfl⟩)
  refine wp_loop_rounds 3 ?_
  rw [rounds_succ]
  go_wp2
  go_quiet ((go_at_call 60; exact Calls.quiet_of_same (second_yes hs _)))
  go_wp2
  rw [rounds_succ]
  go_wp2
  go_quiet (fail)
  go_wp2
  rw [rounds_succ]
  go_wp2
  go_ret2
  refine ⟨rfl, ?_⟩
  first | exact ⟨_, rfl⟩ | (simp only [World.drewN_drewN]; exact ⟨_, rfl⟩)

set_option maxHeartbeats 400000 in
theorem front_s7 (b off n cap b0 b1 b2 b3 : Nat) (hm : U8.many b0 = 4) (hb : b0 < 256) (w : World) (hn : n = 3) (hc : n ≤ cap) (hcap : cap ≤ 9223372036854775807) (c0 : w.cell? ⟨b, off, none⟩ = some (.int .u8 (b0 : Nat))) (c1 : w.cell? ⟨b, off + 1, none⟩ = some (.int .u8 (b1 : Nat))) (c2 : w.cell? ⟨b, off + 2, none⟩ = some (.int .u8 (b2 : Nat))) (hs : U8.sec b0 b1 = true) (h2 : 128 ≤ b2 ∧ b2 ≤ 191) :
    Calls Tryd.prog 53 #[.slice (some ⟨b, off, none⟩) n cap] w fun e w' => e = .returned (.tuple #[.int .i64 3, .bool false]) ∧ ∃ k, w' = w.drewN k := by
  subst hn
  have hn0 : (0 : Int) < 3 := by omega
  have hq := many_any b0 hb
  rw [hm] at hq
  have h2a : (128 : Int) ≤ (b2 : Int) := by omega
  have h2b : (b2 : Int) ≤ 191 := by omega
  have h2d : decide ((b2 : Int) < 128) = false := by simp; omega
  have h2e : decide ((191 : Int) < (b2 : Int)) = false := by simp; omega
  clear hm
  go_enter Tryd.func53, Tryd.ntmps53
  go_wp2_with (go_at_call 59; refine (hq _).mono ?_; rintro e w' ⟨rfl, rfl⟩)
  refine wp_loop_rounds 3 ?_
  rw [rounds_succ]
  go_wp2
  go_quiet ((go_at_call 60; exact Calls.quiet_of_same (second_yes hs _)))
  go_wp2
  rw [rounds_succ]
  go_wp2
  go_quiet (fail)
  go_wp2
  rw [rounds_succ]
  go_wp2
  go_ret2
  refine ⟨rfl, ?_⟩
  first | exact ⟨_, rfl⟩ | (simp only [World.drewN_drewN]; exact ⟨_, rfl⟩)

set_option maxHeartbeats 400000 in
theorem front_s8a (b off n cap b0 b1 b2 b3 : Nat) (hm : U8.many b0 = 4) (hb : b0 < 256) (w : World) (hn : 3 < n) (hc : n ≤ cap) (hcap : cap ≤ 9223372036854775807) (c0 : w.cell? ⟨b, off, none⟩ = some (.int .u8 (b0 : Nat))) (c1 : w.cell? ⟨b, off + 1, none⟩ = some (.int .u8 (b1 : Nat))) (c2 : w.cell? ⟨b, off + 2, none⟩ = some (.int .u8 (b2 : Nat))) (c3 : w.cell? ⟨b, off + 3, none⟩ = some (.int .u8 (b3 : Nat))) (hs : U8.sec b0 b1 = true) (h2 : 128 ≤ b2 ∧ b2 ≤ 191) (h3 : b3 < 128) :
    Calls Tryd.prog 53 #[.slice (some ⟨b, off, none⟩) n cap] w fun e w' => e = .returned (.tuple #[.int .i64 3, .bool false]) ∧ ∃ k, w' = w.drewN k := by
  have hn0 : (0 : Int) < (n : Int) := by omega
  have hq := many_any b0 hb
  rw [hm] at hq
  have hn1 : (1 : Int) < (n : Int) := by omega
  have hn2 : (2 : Int) < (n : Int) := by omega
  have hn3 : (3 : Int) < (n : Int) := by omega
  have h2a : (128 : Int) ≤ (b2 : Int) := by omega
  have h2b : (b2 : Int) ≤ 191 := by omega
  have h2d : decide ((b2 : Int) < 128) = false := by simp; omega
  have h2e : decide ((191 : Int) < (b2 : Int)) = false := by simp; omega
  have h3' : (b3 : Int) < 128 := by omega
  clear hm
  go_enter Tryd.func53, Tryd.ntmps53
  go_wp2_with (go_at_call 59; refine (hq _).mono ?_; rintro e w' ⟨rfl, rfl⟩)
  refine wp_loop_rounds 3 ?_
  rw [rounds_succ]
  go_wp2
  go_quiet ((go_at_call 60; exact Calls.quiet_of_same (second_yes hs _)))
  go_wp2
  rw [rounds_succ]
  go_wp2
  go_quiet (fail)
  go_wp2
  rw [rounds_succ]
  go_wp2
  go_quiet (fail)
  go_wp2
  go_ret2
  refine ⟨rfl, ?_⟩
  first | exact ⟨_, rfl⟩ | (simp only [World.drewN_drewN]; exact ⟨_, rfl⟩)

set_option maxHeartbeats 400000 in
theorem front_s8b (b off n cap b0 b1 b2 b3 : Nat) (hm : U8.many b0 = 4) (hb : b0 < 256) (w : World) (hn : 3 < n) (hc : n ≤ cap) (hcap : cap ≤ 9223372036854775807) (c0 : w.cell? ⟨b, off, none⟩ = some (.int .u8 (b0 : Nat))) (c1 : w.cell? ⟨b, off + 1, none⟩ = some (.int .u8 (b1 : Nat))) (c2 : w.cell? ⟨b, off + 2, none⟩ = some (.int .u8 (b2 : Nat))) (c3 : w.cell? ⟨b, off + 3, none⟩ = some (.int .u8 (b3 : Nat))) (hs : U8.sec b0 b1 = true) (h2 : 128 ≤ b2 ∧ b2 ≤ 191) (h3 : 191 < b3) :
    Calls Tryd.prog 53 #[.slice (some ⟨b, off, none⟩) n cap] w fun e w' => e = .returned (.tuple #[.int .i64 3, .bool false]) ∧ ∃ k, w' = w.drewN k := by
  have hn0 : (0 : Int) < (n : Int) := by omega
  have hq := many_any b0 hb
  rw [hm] at hq
  have hn1 : (1 : Int) < (n : Int) := by omega
  have hn2 : (2 : Int) < (n : Int) := by omega
  have hn3 : (3 : Int) < (n : Int) := by omega
  have h2a : (128 : Int) ≤ (b2 : Int) := by omega
  have h2b : (b2 : Int) ≤ 191 := by omega
  have h2d : decide ((b2 : Int) < 128) = false := by simp; omega
  have h2e : decide ((191 : Int) < (b2 : Int)) = false := by simp; omega
  have h3' : (191 : Int) < (b3 : Int) := by omega
  have h3d : decide ((b3 : Int) < 128) = false := by simp; omega
  have h3e : decide ((191 : Int) < (b3 : Int)) = true := by simp; omega
  clear hm
  go_enter Tryd.func53, Tryd.ntmps53
  go_wp2_with (go_at_call 59; refine (hq _).mono ?_; rintro e w' ⟨rfl, rfl⟩)
  refine wp_loop_rounds 3 ?_
  rw [rounds_succ]
  go_wp2
  go_quiet ((go_at_call 60; exact Calls.quiet_of_same (second_yes hs _)))
  go_wp2
  rw [rounds_succ]
  go_wp2
  go_quiet (fail)
  go_wp2
  rw [rounds_succ]
  go_wp2
  go_quiet (fail)
  go_wp2
  go_ret2
  refine ⟨rfl, ?_⟩
  first | exact ⟨_, rfl⟩ | (simp only [World.drewN_drewN]; exact ⟨_, rfl⟩)

set_option maxHeartbeats 400000 in
theorem front_s9 (b off n cap b0 b1 b2 b3 : Nat) (hm : U8.many b0 = 4) (hb : b0 < 256) (w : World) (hn : 3 < n) (hc : n ≤ cap) (hcap : cap ≤ 9223372036854775807) (c0 : w.cell? ⟨b, off, none⟩ = some (.int .u8 (b0 : Nat))) (c1 : w.cell? ⟨b, off + 1, none⟩ = some (.int .u8 (b1 : Nat))) (c2 : w.cell? ⟨b, off + 2, none⟩ = some (.int .u8 (b2 : Nat))) (c3 : w.cell? ⟨b, off + 3, none⟩ = some (.int .u8 (b3 : Nat))) (hs : U8.sec b0 b1 = true) (h2 : 128 ≤ b2 ∧ b2 ≤ 191) (h3 : 128 ≤ b3 ∧ b3 ≤ 191) :
    Calls Tryd.prog 53 #[.slice (some ⟨b, off, none⟩) n cap] w fun e w' => e = .returned (.tuple #[.int .i64 4, .bool true]) ∧ ∃ k, w' = w.drewN k := by
  have hn0 : (0 : Int) < (n : Int) := by omega
  have hq := many_any b0 hb
  rw [hm] at hq
  have hn1 : (1 : Int) < (n : Int) := by omega
  have hn2 : (2 : Int) < (n : Int) := by omega
  have hn3 : (3 : Int) < (n : Int) := by omega
  have h2a : (128 : Int) ≤ (b2 : Int) := by omega
  have h2b : (b2 : Int) ≤ 191 := by omega
  have h2d : decide ((b2 : Int) < 128) = false := by simp; omega
  have h2e : decide ((191 : Int) < (b2 : Int)) = false := by simp; omega
  have h3a : (128 : Int) ≤ (b3 : Int) := by omega
  have h3b : (b3 : Int) ≤ 191 := by omega
  have h3d : decide ((b3 : Int) < 128) = false := by simp; omega
  have h3e : decide ((191 : Int) < (b3 : Int)) = false := by simp; omega
  clear hm
  go_enter Tryd.func53, Tryd.ntmps53
  go_wp2_with (go_at_call 59; refine (hq _).mono ?_; rintro e w' ⟨rfl, rfl⟩)
  refine wp_loop_rounds 4 ?_
  rw [rounds_succ]
  go_wp2
  go_quiet ((go_at_call 60; exact Calls.quiet_of_same (second_yes hs _)))
  go_wp2
  rw [rounds_succ]
  go_wp2
  go_quiet (fail)
  go_wp2
  rw [rounds_succ]
  go_wp2
  go_quiet (fail)
  go_wp2
  rw [rounds_succ]
  go_wp2
  go_ret2
  refine ⟨rfl, ?_⟩
  first | exact ⟨_, rfl⟩ | (simp only [World.drewN_drewN]; exact ⟨_, rfl⟩)


/-- front, of whatever bytes. -/
theorem front_any (b off cap : Nat) (l : List UInt8) (h : l ≠ []) (hc : l.length ≤ cap) (hcap : cap ≤ 9223372036854775807) (w : World) (hat : BytesAt w b off l) :
    Calls Tryd.prog 53 #[.slice (some ⟨b, off, none⟩) l.length cap] w fun e w' => e = .returned (.tuple #[.int .i64 (U8.front l).1, .bool (U8.front l).2]) ∧ ∃ k, w' = w.drewN k := by
  have hn : 1 ≤ l.length := by
    cases l with
    | nil => exact absurd rfl h
    | cons a r => simp
  have c0 : w.cell? ⟨b, off, none⟩ = some (.int .u8 (U8.B l 0 : Nat)) := hat 0 (by omega)
  have c1 : 1 < l.length → w.cell? ⟨b, off + 1, none⟩ = some (.int .u8 (U8.B l 1 : Nat)) := fun h => hat 1 h
  have c2 : 2 < l.length → w.cell? ⟨b, off + 2, none⟩ = some (.int .u8 (U8.B l 2 : Nat)) := fun h => hat 2 h
  have c3 : 3 < l.length → w.cell? ⟨b, off + 3, none⟩ = some (.int .u8 (U8.B l 3 : Nat)) := fun h => hat 3 h
  have p0 := U8.B_lt l 0
  unfold U8.front
  generalize U8.B l 0 = b0 at *
  generalize U8.B l 1 = b1 at *
  generalize U8.B l 2 = b2 at *
  generalize U8.B l 3 = b3 at *
  generalize l.length = n at *
  clear hat h
  by_cases d1 : b0 < 194 ∨ 244 < b0
  · have ef : U8.frontN n b0 b1 b2 b3 = (1, decide (b0 < 128)) := by
      by_cases d0 : b0 < 128
      · simp [U8.frontN, d0]
      · unfold U8.frontN; rw [if_neg d0, if_pos d1]; simp [d0]
    rw [ef]
    exact (front_one b off n cap b0 p0 d1 w hn hc hcap c0).mono fun _ _ ⟨h1, h2⟩ => ⟨h1, 0, h2⟩
  have d0 : ¬ b0 < 128 := by omega
  have hm : (U8.many b0 = 2 ∧ b0 < 224) ∨ (U8.many b0 = 3 ∧ 224 ≤ b0 ∧ b0 < 240) ∨ (U8.many b0 = 4 ∧ 240 ≤ b0) := by
    unfold U8.many
    (repeat' split) <;> omega
  by_cases d2 : 1 < n ∧ U8.sec b0 b1 = true
  case neg =>
    have ef : U8.frontN n b0 b1 b2 b3 = (1, false) := by unfold U8.frontN; rw [if_neg d0, if_neg d1, if_pos d2]
    rw [ef]
    obtain ⟨m, hm', hm2, hm4⟩ : ∃ m, U8.many b0 = m ∧ 2 ≤ m ∧ m ≤ 4 := ⟨_, rfl, by omega, by omega⟩
    by_cases h1 : 1 < n
    · exact front_s2 b off n cap b0 b1 b2 b3 m hm' hm2 hm4 p0 w h1 hc hcap c0 (c1 h1) (by simpa [h1] using d2)
    · exact front_s1 b off n cap b0 b1 b2 b3 m hm' hm2 hm4 p0 w (by omega) hc hcap c0
  have c1' := c1 d2.1
  by_cases d3 : b0 < 224
  · have ef : U8.frontN n b0 b1 b2 b3 = (2, true) := by unfold U8.frontN; rw [if_neg d0, if_neg d1, if_neg (fun h => h d2), if_pos d3]
    rw [ef]
    exact front_s3 b off n cap b0 b1 b2 b3 (by omega) p0 w d2.1 hc hcap c0 c1' d2.2
  by_cases d4 : 2 < n ∧ U8.cont b2 = true
  case neg =>
    have ef : U8.frontN n b0 b1 b2 b3 = (2, false) := by unfold U8.frontN; rw [if_neg d0, if_neg d1, if_neg (fun h => h d2), if_neg d3, if_pos d4]
    rw [ef]
    obtain ⟨m, hm', hm2, hm4⟩ : ∃ m, U8.many b0 = m ∧ 3 ≤ m ∧ m ≤ 4 := ⟨_, rfl, by omega, by omega⟩
    rw [U8.cont_iff] at d4
    by_cases h1 : 2 < n
    · rcases (show b2 < 128 ∨ 191 < b2 by omega) with h2 | h2
      · exact front_s5a b off n cap b0 b1 b2 b3 m hm' hm2 hm4 p0 w h1 hc hcap c0 c1' (c2 h1) d2.2 h2
      · exact front_s5b b off n cap b0 b1 b2 b3 m hm' hm2 hm4 p0 w h1 hc hcap c0 c1' (c2 h1) d2.2 h2
    · exact front_s4 b off n cap b0 b1 b2 b3 m hm' hm2 hm4 p0 w (by omega) hc hcap c0 c1' d2.2
  have c2' := c2 d4.1
  have h2 := U8.cont_iff.1 d4.2
  by_cases d5 : b0 < 240
  · have ef : U8.frontN n b0 b1 b2 b3 = (3, true) := by unfold U8.frontN; rw [if_neg d0, if_neg d1, if_neg (fun h => h d2), if_neg d3, if_neg (fun h => h d4), if_pos d5]
    rw [ef]
    exact front_s6 b off n cap b0 b1 b2 b3 (by omega) p0 w d4.1 hc hcap c0 c1' c2' d2.2 h2
  by_cases d6 : 3 < n ∧ U8.cont b3 = true
  case neg =>
    have ef : U8.frontN n b0 b1 b2 b3 = (3, false) := by unfold U8.frontN; rw [if_neg d0, if_neg d1, if_neg (fun h => h d2), if_neg d3, if_neg (fun h => h d4), if_neg d5, if_pos d6]
    rw [ef]
    rw [U8.cont_iff] at d6
    by_cases h1 : 3 < n
    · rcases (show b3 < 128 ∨ 191 < b3 by omega) with h3 | h3
      · exact front_s8a b off n cap b0 b1 b2 b3 (by omega) p0 w h1 hc hcap c0 c1' c2' (c3 h1) d2.2 h2 h3
      · exact front_s8b b off n cap b0 b1 b2 b3 (by omega) p0 w h1 hc hcap c0 c1' c2' (c3 h1) d2.2 h2 h3
    · exact front_s7 b off n cap b0 b1 b2 b3 (by omega) p0 w (by omega) hc hcap c0 c1' c2' d2.2 h2
  have ef : U8.frontN n b0 b1 b2 b3 = (4, true) := by unfold U8.frontN; rw [if_neg d0, if_neg d1, if_neg (fun h => h d2), if_neg d3, if_neg (fun h => h d4), if_neg d5, if_neg (fun h => h d6)]
  rw [ef]
  exact front_s9 b off n cap b0 b1 b2 b3 (by omega) p0 w d6.1 hc hcap c0 c1' c2' (c3 d6.1) d2.2 h2 (U8.cont_iff.1 d6.2)
end Go.Proofs.YthfaogodiefefaaDoor
