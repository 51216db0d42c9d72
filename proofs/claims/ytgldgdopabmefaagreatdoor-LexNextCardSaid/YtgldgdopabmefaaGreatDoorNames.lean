/- Walks: package ent, the names among which one is looked for. -/
import Derived.Test.YtgldgdopabmefaaGreatDoorMeanText
import Derived.Carry
namespace Go.Proofs.YtgldgdopabmefaaGreatDoor
open Go.RowKit Go.Lib Ent
set_option maxRecDepth 100000
set_option linter.unusedVariables false

set_option maxHeartbeats 2000000 in
theorem names_0 (c : Nat) (hc : c < 256) (w : World)  (hh : c ≤ 90) :
    Calls Tryz.prog 103 #[.int .u8 c] w fun e w' => e = .returned (.map (some w.heap.size)) ∧ TabIn w w' part0.reverse := by
  have hmm := @run_makeMap Tryz.prog
  have hT := tabIn_made w
  go_enter Tryz.func103, Tryz.ntmps103
  go_wp2_with (refine wpList_insert rfl _ _ _ rfl w _ hT rfl _ _ _ rfl (by decide) (by decide) (by decide) (by decide) rfl ?_; clear hT; intro w1 hT)
  go_ret
  exact ⟨rfl, hT⟩
set_option maxHeartbeats 2000000 in
theorem names_1 (c : Nat) (hc : c < 256) (w : World) (h0 : 90 < c) (hh : c ≤ 100) :
    Calls Tryz.prog 103 #[.int .u8 c] w fun e w' => e = .returned (.map (some w.heap.size)) ∧ TabIn w w' part1.reverse := by
  have hmm := @run_makeMap Tryz.prog
  have hT := tabIn_made w
  go_enter Tryz.func103, Tryz.ntmps103
  go_wp2_with (refine wpList_insert rfl _ _ _ rfl w _ hT rfl _ _ _ rfl (by decide) (by decide) (by decide) (by decide) rfl ?_; clear hT; intro w1 hT)
  go_ret
  exact ⟨rfl, hT⟩
set_option maxHeartbeats 2000000 in
theorem names_2 (c : Nat) (hc : c < 256) (w : World) (h0 : 90 < c) (h1 : 100 < c) (hh : c ≤ 105) :
    Calls Tryz.prog 103 #[.int .u8 c] w fun e w' => e = .returned (.map (some w.heap.size)) ∧ TabIn w w' part2.reverse := by
  have hmm := @run_makeMap Tryz.prog
  have hT := tabIn_made w
  go_enter Tryz.func103, Tryz.ntmps103
  go_wp2_with (refine wpList_insert rfl _ _ _ rfl w _ hT rfl _ _ _ rfl (by decide) (by decide) (by decide) (by decide) rfl ?_; clear hT; intro w1 hT)
  go_ret
  exact ⟨rfl, hT⟩
set_option maxHeartbeats 2000000 in
theorem names_3 (c : Nat) (hc : c < 256) (w : World) (h0 : 90 < c) (h1 : 100 < c) (h2 : 105 < c) (hh : c ≤ 108) :
    Calls Tryz.prog 103 #[.int .u8 c] w fun e w' => e = .returned (.map (some w.heap.size)) ∧ TabIn w w' part3.reverse := by
  have hmm := @run_makeMap Tryz.prog
  have hT := tabIn_made w
  go_enter Tryz.func103, Tryz.ntmps103
  go_wp2_with (refine wpList_insert rfl _ _ _ rfl w _ hT rfl _ _ _ rfl (by decide) (by decide) (by decide) (by decide) rfl ?_; clear hT; intro w1 hT)
  go_ret
  exact ⟨rfl, hT⟩
set_option maxHeartbeats 2000000 in
theorem names_4 (c : Nat) (hc : c < 256) (w : World) (h0 : 90 < c) (h1 : 100 < c) (h2 : 105 < c) (h3 : 108 < c) (hh : c ≤ 110) :
    Calls Tryz.prog 103 #[.int .u8 c] w fun e w' => e = .returned (.map (some w.heap.size)) ∧ TabIn w w' part4.reverse := by
  have hmm := @run_makeMap Tryz.prog
  have hT := tabIn_made w
  go_enter Tryz.func103, Tryz.ntmps103
  go_wp2_with (refine wpList_insert rfl _ _ _ rfl w _ hT rfl _ _ _ rfl (by decide) (by decide) (by decide) (by decide) rfl ?_; clear hT; intro w1 hT)
  go_ret
  exact ⟨rfl, hT⟩
set_option maxHeartbeats 2000000 in
theorem names_5 (c : Nat) (hc : c < 256) (w : World) (h0 : 90 < c) (h1 : 100 < c) (h2 : 105 < c) (h3 : 108 < c) (h4 : 110 < c) (hh : c ≤ 114) :
    Calls Tryz.prog 103 #[.int .u8 c] w fun e w' => e = .returned (.map (some w.heap.size)) ∧ TabIn w w' part5.reverse := by
  have hmm := @run_makeMap Tryz.prog
  have hT := tabIn_made w
  go_enter Tryz.func103, Tryz.ntmps103
  go_wp2_with (refine wpList_insert rfl _ _ _ rfl w _ hT rfl _ _ _ rfl (by decide) (by decide) (by decide) (by decide) rfl ?_; clear hT; intro w1 hT)
  go_ret
  exact ⟨rfl, hT⟩
set_option maxHeartbeats 2000000 in
theorem names_6 (c : Nat) (hc : c < 256) (w : World) (h0 : 90 < c) (h1 : 100 < c) (h2 : 105 < c) (h3 : 108 < c) (h4 : 110 < c) (h5 : 114 < c) :
    Calls Tryz.prog 103 #[.int .u8 c] w fun e w' => e = .returned (.map (some w.heap.size)) ∧ TabIn w w' part6.reverse := by
  have hmm := @run_makeMap Tryz.prog
  have hT := tabIn_made w
  go_enter Tryz.func103, Tryz.ntmps103
  go_wp2_with (refine wpList_insert rfl _ _ _ rfl w _ hT rfl _ _ _ rfl (by decide) (by decide) (by decide) (by decide) rfl ?_; clear hT; intro w1 hT)
  go_ret
  exact ⟨rfl, hT⟩
theorem names_any (c : Nat) (hc : c < 256) (w : World) :
    Calls Tryz.prog 103 #[.int .u8 c] w fun e w' => e = .returned (.map (some w.heap.size)) ∧ TabIn w w' (sub c).reverse := by
  unfold sub
  by_cases h0 : c ≤ 90
  · rw [if_pos h0]; exact names_0 c hc w h0
  rw [if_neg h0]
  by_cases h1 : c ≤ 100
  · rw [if_pos h1]; exact names_1 c hc w (by omega) h1
  rw [if_neg h1]
  by_cases h2 : c ≤ 105
  · rw [if_pos h2]; exact names_2 c hc w (by omega) (by omega) h2
  rw [if_neg h2]
  by_cases h3 : c ≤ 108
  · rw [if_pos h3]; exact names_3 c hc w (by omega) (by omega) (by omega) h3
  rw [if_neg h3]
  by_cases h4 : c ≤ 110
  · rw [if_pos h4]; exact names_4 c hc w (by omega) (by omega) (by omega) (by omega) h4
  rw [if_neg h4]
  by_cases h5 : c ≤ 114
  · rw [if_pos h5]; exact names_5 c hc w (by omega) (by omega) (by omega) (by omega) (by omega) h5
  rw [if_neg h5]
  exact names_6 c hc w (by omega) (by omega) (by omega) (by omega) (by omega) (by omega)
end Go.Proofs.YtgldgdopabmefaaGreatDoor
