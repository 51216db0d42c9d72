/- Walks over the reference of layer 2: what a character is folded to, second part. -/
import Derived.Test.YtgnoiifakipliaaDoorRefFoldA
namespace Go.Proofs.YtgnoiifakipliaaDoor
open Go.RowKit Go.Lib
set_option maxRecDepth 100000
set_option linter.unusedVariables false

theorem rfold_12 (r : Nat) (h : 313 ≤ r) (h' : r ≤ 328) (hp : r % 2 = 1) (w : World) : FoldsTo r w := by
  have e : foldC r = [r + 1] := by
    unfold foldC
    repeat (first | rw [if_pos (by omega)] | rw [if_neg (by omega)])
  unfold FoldsTo
  rw [e]; clear e
  have r0 : (0 : Int) ≤ (r : Int) := by omega
  have r1 : (r : Int) ≤ 1114111 := by omega
  have g0 : decide ((65 : Int) ≤ (r : Int)) = true := by simp; omega
  have g1 : decide ((192 : Int) ≤ (r : Int)) = true := by simp; omega
  have g2 : decide ((913 : Int) ≤ (r : Int)) = false := by simp; omega
  have g3 : decide ((1040 : Int) ≤ (r : Int)) = false := by simp; omega
  have g4 : decide ((1024 : Int) ≤ (r : Int)) = false := by simp; omega
  have g5 : decide ((256 : Int) ≤ (r : Int)) = true := by simp; omega
  have g6 : decide ((330 : Int) ≤ (r : Int)) = false := by simp; omega
  have g7 : decide ((7680 : Int) ≤ (r : Int)) = false := by simp; omega
  have g8 : decide ((313 : Int) ≤ (r : Int)) = true := by simp; omega
  have g9 : decide ((377 : Int) ≤ (r : Int)) = false := by simp; omega
  have l0 : decide ((r : Int) ≤ 90) = false := by simp; omega
  have l1 : decide ((r : Int) ≤ 222) = false := by simp; omega
  have l2 : decide ((r : Int) ≤ 937) = true := by simp; omega
  have l3 : decide ((r : Int) ≤ 1071) = true := by simp; omega
  have l4 : decide ((r : Int) ≤ 1039) = true := by simp; omega
  have l5 : decide ((r : Int) ≤ 311) = false := by simp; omega
  have l6 : decide ((r : Int) ≤ 375) = true := by simp; omega
  have l7 : decide ((r : Int) ≤ 7829) = true := by simp; omega
  have l8 : decide ((r : Int) ≤ 328) = true := by simp; omega
  have l9 : decide ((r : Int) ≤ 382) = true := by simp; omega
  have q0 : ((r : Int) == 223) = false := beq_eq_false_iff_ne.2 (by omega)
  have q1 : ((r : Int) == 7838) = false := beq_eq_false_iff_ne.2 (by omega)
  have q2 : ((r : Int) == 962) = false := beq_eq_false_iff_ne.2 (by omega)
  have n0 : ((r : Int) != 215) = true := by rw [bne_iff_ne]; omega
  have n1 : ((r : Int) != 930) = true := by rw [bne_iff_ne]; omega
  have p0 : ((r : Int) % 2 == 0) = false := by first | exact beq_iff_eq.2 (by omega) | exact beq_eq_false_iff_ne.2 (by omega)
  have p1 : ((r : Int) % 2 == 1) = true := by first | exact beq_iff_eq.2 (by omega) | exact beq_eq_false_iff_ne.2 (by omega)
  clear hp
  clear h h'
  go_enter Tryd.func39, Tryd.ntmps39
  go_wp2
  go_ret
  exact ⟨rfl, rfl⟩

theorem rfold_13 (r : Nat) (h : 329 ≤ r) (h' : r ≤ 329) (w : World) : FoldsTo r w := by
  have e : foldC r = [r] := by
    unfold foldC
    repeat (first | rw [if_pos (by omega)] | rw [if_neg (by omega)])
  unfold FoldsTo
  rw [e]; clear e
  obtain rfl : r = 329 := by omega
  go_enter Tryd.func39, Tryd.ntmps39
  go_wp2
  go_ret
  exact ⟨rfl, rfl⟩

theorem rfold_14 (r : Nat) (h : 330 ≤ r) (h' : r ≤ 375) (hp : r % 2 = 0) (w : World) : FoldsTo r w := by
  have e : foldC r = [r + 1] := by
    unfold foldC
    repeat (first | rw [if_pos (by omega)] | rw [if_neg (by omega)])
  unfold FoldsTo
  rw [e]; clear e
  have r0 : (0 : Int) ≤ (r : Int) := by omega
  have r1 : (r : Int) ≤ 1114111 := by omega
  have g0 : decide ((65 : Int) ≤ (r : Int)) = true := by simp; omega
  have g1 : decide ((192 : Int) ≤ (r : Int)) = true := by simp; omega
  have g2 : decide ((913 : Int) ≤ (r : Int)) = false := by simp; omega
  have g3 : decide ((1040 : Int) ≤ (r : Int)) = false := by simp; omega
  have g4 : decide ((1024 : Int) ≤ (r : Int)) = false := by simp; omega
  have g5 : decide ((256 : Int) ≤ (r : Int)) = true := by simp; omega
  have g6 : decide ((330 : Int) ≤ (r : Int)) = true := by simp; omega
  have g7 : decide ((7680 : Int) ≤ (r : Int)) = false := by simp; omega
  have g8 : decide ((313 : Int) ≤ (r : Int)) = true := by simp; omega
  have g9 : decide ((377 : Int) ≤ (r : Int)) = false := by simp; omega
  have l0 : decide ((r : Int) ≤ 90) = false := by simp; omega
  have l1 : decide ((r : Int) ≤ 222) = false := by simp; omega
  have l2 : decide ((r : Int) ≤ 937) = true := by simp; omega
  have l3 : decide ((r : Int) ≤ 1071) = true := by simp; omega
  have l4 : decide ((r : Int) ≤ 1039) = true := by simp; omega
  have l5 : decide ((r : Int) ≤ 311) = false := by simp; omega
  have l6 : decide ((r : Int) ≤ 375) = true := by simp; omega
  have l7 : decide ((r : Int) ≤ 7829) = true := by simp; omega
  have l8 : decide ((r : Int) ≤ 328) = false := by simp; omega
  have l9 : decide ((r : Int) ≤ 382) = true := by simp; omega
  have q0 : ((r : Int) == 223) = false := beq_eq_false_iff_ne.2 (by omega)
  have q1 : ((r : Int) == 7838) = false := beq_eq_false_iff_ne.2 (by omega)
  have q2 : ((r : Int) == 962) = false := beq_eq_false_iff_ne.2 (by omega)
  have n0 : ((r : Int) != 215) = true := by rw [bne_iff_ne]; omega
  have n1 : ((r : Int) != 930) = true := by rw [bne_iff_ne]; omega
  have p0 : ((r : Int) % 2 == 0) = true := by first | exact beq_iff_eq.2 (by omega) | exact beq_eq_false_iff_ne.2 (by omega)
  have p1 : ((r : Int) % 2 == 1) = false := by first | exact beq_iff_eq.2 (by omega) | exact beq_eq_false_iff_ne.2 (by omega)
  clear hp
  clear h h'
  go_enter Tryd.func39, Tryd.ntmps39
  go_wp2
  go_ret
  exact ⟨rfl, rfl⟩

theorem rfold_15 (r : Nat) (h : 330 ≤ r) (h' : r ≤ 375) (hp : r % 2 = 1) (w : World) : FoldsTo r w := by
  have e : foldC r = [r] := by
    unfold foldC
    repeat (first | rw [if_pos (by omega)] | rw [if_neg (by omega)])
  unfold FoldsTo
  rw [e]; clear e
  have r0 : (0 : Int) ≤ (r : Int) := by omega
  have r1 : (r : Int) ≤ 1114111 := by omega
  have g0 : decide ((65 : Int) ≤ (r : Int)) = true := by simp; omega
  have g1 : decide ((192 : Int) ≤ (r : Int)) = true := by simp; omega
  have g2 : decide ((913 : Int) ≤ (r : Int)) = false := by simp; omega
  have g3 : decide ((1040 : Int) ≤ (r : Int)) = false := by simp; omega
  have g4 : decide ((1024 : Int) ≤ (r : Int)) = false := by simp; omega
  have g5 : decide ((256 : Int) ≤ (r : Int)) = true := by simp; omega
  have g6 : decide ((330 : Int) ≤ (r : Int)) = true := by simp; omega
  have g7 : decide ((7680 : Int) ≤ (r : Int)) = false := by simp; omega
  have g8 : decide ((313 : Int) ≤ (r : Int)) = true := by simp; omega
  have g9 : decide ((377 : Int) ≤ (r : Int)) = false := by simp; omega
  have l0 : decide ((r : Int) ≤ 90) = false := by simp; omega
  have l1 : decide ((r : Int) ≤ 222) = false := by simp; omega
  have l2 : decide ((r : Int) ≤ 937) = true := by simp; omega
  have l3 : decide ((r : Int) ≤ 1071) = true := by simp; omega
  have l4 : decide ((r : Int) ≤ 1039) = true := by simp; omega
  have l5 : decide ((r : Int) ≤ 311) = false := by simp; omega
  have l6 : decide ((r : Int) ≤ 375) = true := by simp; omega
  have l7 : decide ((r : Int) ≤ 7829) = true := by simp; omega
  have l8 : decide ((r : Int) ≤ 328) = false := by simp; omega
  have l9 : decide ((r : Int) ≤ 382) = true := by simp; omega
  have q0 : ((r : Int) == 223) = false := beq_eq_false_iff_ne.2 (by omega)
  have q1 : ((r : Int) == 7838) = false := beq_eq_false_iff_ne.2 (by omega)
  have q2 : ((r : Int) == 962) = false := beq_eq_false_iff_ne.2 (by omega)
  have n0 : ((r : Int) != 215) = true := by rw [bne_iff_ne]; omega
  have n1 : ((r : Int) != 930) = true := by rw [bne_iff_ne]; omega
  have p0 : ((r : Int) % 2 == 0) = false := by first | exact beq_iff_eq.2 (by omega) | exact beq_eq_false_iff_ne.2 (by omega)
  have p1 : ((r : Int) % 2 == 1) = true := by first | exact beq_iff_eq.2 (by omega) | exact beq_eq_false_iff_ne.2 (by omega)
  clear hp
  clear h h'
  go_enter Tryd.func39, Tryd.ntmps39
  go_wp2
  go_ret
  exact ⟨rfl, rfl⟩

theorem rfold_16 (r : Nat) (h : 376 ≤ r) (h' : r ≤ 376) (w : World) : FoldsTo r w := by
  have e : foldC r = [r] := by
    unfold foldC
    repeat (first | rw [if_pos (by omega)] | rw [if_neg (by omega)])
  unfold FoldsTo
  rw [e]; clear e
  obtain rfl : r = 376 := by omega
  go_enter Tryd.func39, Tryd.ntmps39
  go_wp2
  go_ret
  exact ⟨rfl, rfl⟩

theorem rfold_17 (r : Nat) (h : 377 ≤ r) (h' : r ≤ 382) (hp : r % 2 = 0) (w : World) : FoldsTo r w := by
  have e : foldC r = [r] := by
    unfold foldC
    repeat (first | rw [if_pos (by omega)] | rw [if_neg (by omega)])
  unfold FoldsTo
  rw [e]; clear e
  have r0 : (0 : Int) ≤ (r : Int) := by omega
  have r1 : (r : Int) ≤ 1114111 := by omega
  have g0 : decide ((65 : Int) ≤ (r : Int)) = true := by simp; omega
  have g1 : decide ((192 : Int) ≤ (r : Int)) = true := by simp; omega
  have g2 : decide ((913 : Int) ≤ (r : Int)) = false := by simp; omega
  have g3 : decide ((1040 : Int) ≤ (r : Int)) = false := by simp; omega
  have g4 : decide ((1024 : Int) ≤ (r : Int)) = false := by simp; omega
  have g5 : decide ((256 : Int) ≤ (r : Int)) = true := by simp; omega
  have g6 : decide ((330 : Int) ≤ (r : Int)) = true := by simp; omega
  have g7 : decide ((7680 : Int) ≤ (r : Int)) = false := by simp; omega
  have g8 : decide ((313 : Int) ≤ (r : Int)) = true := by simp; omega
  have g9 : decide ((377 : Int) ≤ (r : Int)) = true := by simp; omega
  have l0 : decide ((r : Int) ≤ 90) = false := by simp; omega
  have l1 : decide ((r : Int) ≤ 222) = false := by simp; omega
  have l2 : decide ((r : Int) ≤ 937) = true := by simp; omega
  have l3 : decide ((r : Int) ≤ 1071) = true := by simp; omega
  have l4 : decide ((r : Int) ≤ 1039) = true := by simp; omega
  have l5 : decide ((r : Int) ≤ 311) = false := by simp; omega
  have l6 : decide ((r : Int) ≤ 375) = false := by simp; omega
  have l7 : decide ((r : Int) ≤ 7829) = true := by simp; omega
  have l8 : decide ((r : Int) ≤ 328) = false := by simp; omega
  have l9 : decide ((r : Int) ≤ 382) = true := by simp; omega
  have q0 : ((r : Int) == 223) = false := beq_eq_false_iff_ne.2 (by omega)
  have q1 : ((r : Int) == 7838) = false := beq_eq_false_iff_ne.2 (by omega)
  have q2 : ((r : Int) == 962) = false := beq_eq_false_iff_ne.2 (by omega)
  have n0 : ((r : Int) != 215) = true := by rw [bne_iff_ne]; omega
  have n1 : ((r : Int) != 930) = true := by rw [bne_iff_ne]; omega
  have p0 : ((r : Int) % 2 == 0) = true := by first | exact beq_iff_eq.2 (by omega) | exact beq_eq_false_iff_ne.2 (by omega)
  have p1 : ((r : Int) % 2 == 1) = false := by first | exact beq_iff_eq.2 (by omega) | exact beq_eq_false_iff_ne.2 (by omega)
  clear hp
  clear h h'
  go_enter Tryd.func39, Tryd.ntmps39
  go_wp2
  go_ret
  exact ⟨rfl, rfl⟩

theorem rfold_18 (r : Nat) (h : 377 ≤ r) (h' : r ≤ 382) (hp : r % 2 = 1) (w : World) : FoldsTo r w := by
  have e : foldC r = [r + 1] := by
    unfold foldC
    repeat (first | rw [if_pos (by omega)] | rw [if_neg (by omega)])
  unfold FoldsTo
  rw [e]; clear e
  have r0 : (0 : Int) ≤ (r : Int) := by omega
  have r1 : (r : Int) ≤ 1114111 := by omega
  have g0 : decide ((65 : Int) ≤ (r : Int)) = true := by simp; omega
  have g1 : decide ((192 : Int) ≤ (r : Int)) = true := by simp; omega
  have g2 : decide ((913 : Int) ≤ (r : Int)) = false := by simp; omega
  have g3 : decide ((1040 : Int) ≤ (r : Int)) = false := by simp; omega
  have g4 : decide ((1024 : Int) ≤ (r : Int)) = false := by simp; omega
  have g5 : decide ((256 : Int) ≤ (r : Int)) = true := by simp; omega
  have g6 : decide ((330 : Int) ≤ (r : Int)) = true := by simp; omega
  have g7 : decide ((7680 : Int) ≤ (r : Int)) = false := by simp; omega
  have g8 : decide ((313 : Int) ≤ (r : Int)) = true := by simp; omega
  have g9 : decide ((377 : Int) ≤ (r : Int)) = true := by simp; omega
  have l0 : decide ((r : Int) ≤ 90) = false := by simp; omega
  have l1 : decide ((r : Int) ≤ 222) = false := by simp; omega
  have l2 : decide ((r : Int) ≤ 937) = true := by simp; omega
  have l3 : decide ((r : Int) ≤ 1071) = true := by simp; omega
  have l4 : decide ((r : Int) ≤ 1039) = true := by simp; omega
  have l5 : decide ((r : Int) ≤ 311) = false := by simp; omega
  have l6 : decide ((r : Int) ≤ 375) = false := by simp; omega
  have l7 : decide ((r : Int) ≤ 7829) = true := by simp; omega
  have l8 : decide ((r : Int) ≤ 328) = false := by simp; omega
  have l9 : decide ((r : Int) ≤ 382) = true := by simp; omega
  have q0 : ((r : Int) == 223) = false := beq_eq_false_iff_ne.2 (by omega)
  have q1 : ((r : Int) == 7838) = false := beq_eq_false_iff_ne.2 (by omega)
  have q2 : ((r : Int) == 962) = false := beq_eq_false_iff_ne.2 (by omega)
  have n0 : ((r : Int) != 215) = true := by rw [bne_iff_ne]; omega
  have n1 : ((r : Int) != 930) = true := by rw [bne_iff_ne]; omega
  have p0 : ((r : Int) % 2 == 0) = false := by first | exact beq_iff_eq.2 (by omega) | exact beq_eq_false_iff_ne.2 (by omega)
  have p1 : ((r : Int) % 2 == 1) = true := by first | exact beq_iff_eq.2 (by omega) | exact beq_eq_false_iff_ne.2 (by omega)
  clear hp
  clear h h'
  go_enter Tryd.func39, Tryd.ntmps39
  go_wp2
  go_ret
  exact ⟨rfl, rfl⟩

theorem rfold_19 (r : Nat) (h : 383 ≤ r) (h' : r ≤ 912) (w : World) : FoldsTo r w := by
  have e : foldC r = [r] := by
    unfold foldC
    repeat (first | rw [if_pos (by omega)] | rw [if_neg (by omega)])
  unfold FoldsTo
  rw [e]; clear e
  have r0 : (0 : Int) ≤ (r : Int) := by omega
  have r1 : (r : Int) ≤ 1114111 := by omega
  have g0 : decide ((65 : Int) ≤ (r : Int)) = true := by simp; omega
  have g1 : decide ((192 : Int) ≤ (r : Int)) = true := by simp; omega
  have g2 : decide ((913 : Int) ≤ (r : Int)) = false := by simp; omega
  have g3 : decide ((1040 : Int) ≤ (r : Int)) = false := by simp; omega
  have g4 : decide ((1024 : Int) ≤ (r : Int)) = false := by simp; omega
  have g5 : decide ((256 : Int) ≤ (r : Int)) = true := by simp; omega
  have g6 : decide ((330 : Int) ≤ (r : Int)) = true := by simp; omega
  have g7 : decide ((7680 : Int) ≤ (r : Int)) = false := by simp; omega
  have g8 : decide ((313 : Int) ≤ (r : Int)) = true := by simp; omega
  have g9 : decide ((377 : Int) ≤ (r : Int)) = true := by simp; omega
  have l0 : decide ((r : Int) ≤ 90) = false := by simp; omega
  have l1 : decide ((r : Int) ≤ 222) = false := by simp; omega
  have l2 : decide ((r : Int) ≤ 937) = true := by simp; omega
  have l3 : decide ((r : Int) ≤ 1071) = true := by simp; omega
  have l4 : decide ((r : Int) ≤ 1039) = true := by simp; omega
  have l5 : decide ((r : Int) ≤ 311) = false := by simp; omega
  have l6 : decide ((r : Int) ≤ 375) = false := by simp; omega
  have l7 : decide ((r : Int) ≤ 7829) = true := by simp; omega
  have l8 : decide ((r : Int) ≤ 328) = false := by simp; omega
  have l9 : decide ((r : Int) ≤ 382) = false := by simp; omega
  have q0 : ((r : Int) == 223) = false := beq_eq_false_iff_ne.2 (by omega)
  have q1 : ((r : Int) == 7838) = false := beq_eq_false_iff_ne.2 (by omega)
  have q2 : ((r : Int) == 962) = false := beq_eq_false_iff_ne.2 (by omega)
  have n0 : ((r : Int) != 215) = true := by rw [bne_iff_ne]; omega
  have n1 : ((r : Int) != 930) = true := by rw [bne_iff_ne]; omega
  clear h h'
  go_enter Tryd.func39, Tryd.ntmps39
  go_wp2
  go_ret
  exact ⟨rfl, rfl⟩

theorem rfold_20 (r : Nat) (h : 913 ≤ r) (h' : r ≤ 929) (w : World) : FoldsTo r w := by
  have e : foldC r = [r + 32] := by
    unfold foldC
    repeat (first | rw [if_pos (by omega)] | rw [if_neg (by omega)])
  unfold FoldsTo
  rw [e]; clear e
  have r0 : (0 : Int) ≤ (r : Int) := by omega
  have r1 : (r : Int) ≤ 1114111 := by omega
  have g0 : decide ((65 : Int) ≤ (r : Int)) = true := by simp; omega
  have g1 : decide ((192 : Int) ≤ (r : Int)) = true := by simp; omega
  have g2 : decide ((913 : Int) ≤ (r : Int)) = true := by simp; omega
  have g3 : decide ((1040 : Int) ≤ (r : Int)) = false := by simp; omega
  have g4 : decide ((1024 : Int) ≤ (r : Int)) = false := by simp; omega
  have g5 : decide ((256 : Int) ≤ (r : Int)) = true := by simp; omega
  have g6 : decide ((330 : Int) ≤ (r : Int)) = true := by simp; omega
  have g7 : decide ((7680 : Int) ≤ (r : Int)) = false := by simp; omega
  have g8 : decide ((313 : Int) ≤ (r : Int)) = true := by simp; omega
  have g9 : decide ((377 : Int) ≤ (r : Int)) = true := by simp; omega
  have l0 : decide ((r : Int) ≤ 90) = false := by simp; omega
  have l1 : decide ((r : Int) ≤ 222) = false := by simp; omega
  have l2 : decide ((r : Int) ≤ 937) = true := by simp; omega
  have l3 : decide ((r : Int) ≤ 1071) = true := by simp; omega
  have l4 : decide ((r : Int) ≤ 1039) = true := by simp; omega
  have l5 : decide ((r : Int) ≤ 311) = false := by simp; omega
  have l6 : decide ((r : Int) ≤ 375) = false := by simp; omega
  have l7 : decide ((r : Int) ≤ 7829) = true := by simp; omega
  have l8 : decide ((r : Int) ≤ 328) = false := by simp; omega
  have l9 : decide ((r : Int) ≤ 382) = false := by simp; omega
  have q0 : ((r : Int) == 223) = false := beq_eq_false_iff_ne.2 (by omega)
  have q1 : ((r : Int) == 7838) = false := beq_eq_false_iff_ne.2 (by omega)
  have q2 : ((r : Int) == 962) = false := beq_eq_false_iff_ne.2 (by omega)
  have n0 : ((r : Int) != 215) = true := by rw [bne_iff_ne]; omega
  have n1 : ((r : Int) != 930) = true := by rw [bne_iff_ne]; omega
  clear h h'
  go_enter Tryd.func39, Tryd.ntmps39
  go_wp2
  go_ret
  exact ⟨rfl, rfl⟩

theorem rfold_21 (r : Nat) (h : 930 ≤ r) (h' : r ≤ 930) (w : World) : FoldsTo r w := by
  have e : foldC r = [r] := by
    unfold foldC
    repeat (first | rw [if_pos (by omega)] | rw [if_neg (by omega)])
  unfold FoldsTo
  rw [e]; clear e
  obtain rfl : r = 930 := by omega
  go_enter Tryd.func39, Tryd.ntmps39
  go_wp2
  go_ret
  exact ⟨rfl, rfl⟩

theorem rfold_22 (r : Nat) (h : 931 ≤ r) (h' : r ≤ 937) (w : World) : FoldsTo r w := by
  have e : foldC r = [r + 32] := by
    unfold foldC
    repeat (first | rw [if_pos (by omega)] | rw [if_neg (by omega)])
  unfold FoldsTo
  rw [e]; clear e
  have r0 : (0 : Int) ≤ (r : Int) := by omega
  have r1 : (r : Int) ≤ 1114111 := by omega
  have g0 : decide ((65 : Int) ≤ (r : Int)) = true := by simp; omega
  have g1 : decide ((192 : Int) ≤ (r : Int)) = true := by simp; omega
  have g2 : decide ((913 : Int) ≤ (r : Int)) = true := by simp; omega
  have g3 : decide ((1040 : Int) ≤ (r : Int)) = false := by simp; omega
  have g4 : decide ((1024 : Int) ≤ (r : Int)) = false := by simp; omega
  have g5 : decide ((256 : Int) ≤ (r : Int)) = true := by simp; omega
  have g6 : decide ((330 : Int) ≤ (r : Int)) = true := by simp; omega
  have g7 : decide ((7680 : Int) ≤ (r : Int)) = false := by simp; omega
  have g8 : decide ((313 : Int) ≤ (r : Int)) = true := by simp; omega
  have g9 : decide ((377 : Int) ≤ (r : Int)) = true := by simp; omega
  have l0 : decide ((r : Int) ≤ 90) = false := by simp; omega
  have l1 : decide ((r : Int) ≤ 222) = false := by simp; omega
  have l2 : decide ((r : Int) ≤ 937) = true := by simp; omega
  have l3 : decide ((r : Int) ≤ 1071) = true := by simp; omega
  have l4 : decide ((r : Int) ≤ 1039) = true := by simp; omega
  have l5 : decide ((r : Int) ≤ 311) = false := by simp; omega
  have l6 : decide ((r : Int) ≤ 375) = false := by simp; omega
  have l7 : decide ((r : Int) ≤ 7829) = true := by simp; omega
  have l8 : decide ((r : Int) ≤ 328) = false := by simp; omega
  have l9 : decide ((r : Int) ≤ 382) = false := by simp; omega
  have q0 : ((r : Int) == 223) = false := beq_eq_false_iff_ne.2 (by omega)
  have q1 : ((r : Int) == 7838) = false := beq_eq_false_iff_ne.2 (by omega)
  have q2 : ((r : Int) == 962) = false := beq_eq_false_iff_ne.2 (by omega)
  have n0 : ((r : Int) != 215) = true := by rw [bne_iff_ne]; omega
  have n1 : ((r : Int) != 930) = true := by rw [bne_iff_ne]; omega
  clear h h'
  go_enter Tryd.func39, Tryd.ntmps39
  go_wp2
  go_ret
  exact ⟨rfl, rfl⟩

theorem rfold_23 (r : Nat) (h : 938 ≤ r) (h' : r ≤ 961) (w : World) : FoldsTo r w := by
  have e : foldC r = [r] := by
    unfold foldC
    repeat (first | rw [if_pos (by omega)] | rw [if_neg (by omega)])
  unfold FoldsTo
  rw [e]; clear e
  have r0 : (0 : Int) ≤ (r : Int) := by omega
  have r1 : (r : Int) ≤ 1114111 := by omega
  have g0 : decide ((65 : Int) ≤ (r : Int)) = true := by simp; omega
  have g1 : decide ((192 : Int) ≤ (r : Int)) = true := by simp; omega
  have g2 : decide ((913 : Int) ≤ (r : Int)) = true := by simp; omega
  have g3 : decide ((1040 : Int) ≤ (r : Int)) = false := by simp; omega
  have g4 : decide ((1024 : Int) ≤ (r : Int)) = false := by simp; omega
  have g5 : decide ((256 : Int) ≤ (r : Int)) = true := by simp; omega
  have g6 : decide ((330 : Int) ≤ (r : Int)) = true := by simp; omega
  have g7 : decide ((7680 : Int) ≤ (r : Int)) = false := by simp; omega
  have g8 : decide ((313 : Int) ≤ (r : Int)) = true := by simp; omega
  have g9 : decide ((377 : Int) ≤ (r : Int)) = true := by simp; omega
  have l0 : decide ((r : Int) ≤ 90) = false := by simp; omega
  have l1 : decide ((r : Int) ≤ 222) = false := by simp; omega
  have l2 : decide ((r : Int) ≤ 937) = false := by simp; omega
  have l3 : decide ((r : Int) ≤ 1071) = true := by simp; omega
  have l4 : decide ((r : Int) ≤ 1039) = true := by simp; omega
  have l5 : decide ((r : Int) ≤ 311) = false := by simp; omega
  have l6 : decide ((r : Int) ≤ 375) = false := by simp; omega
  have l7 : decide ((r : Int) ≤ 7829) = true := by simp; omega
  have l8 : decide ((r : Int) ≤ 328) = false := by simp; omega
  have l9 : decide ((r : Int) ≤ 382) = false := by simp; omega
  have q0 : ((r : Int) == 223) = false := beq_eq_false_iff_ne.2 (by omega)
  have q1 : ((r : Int) == 7838) = false := beq_eq_false_iff_ne.2 (by omega)
  have q2 : ((r : Int) == 962) = false := beq_eq_false_iff_ne.2 (by omega)
  have n0 : ((r : Int) != 215) = true := by rw [bne_iff_ne]; omega
  have n1 : ((r : Int) != 930) = true := by rw [bne_iff_ne]; omega
  clear h h'
  go_enter Tryd.func39, Tryd.ntmps39
  go_wp2
  go_ret
  exact ⟨rfl, rfl⟩
end Go.Proofs.YtgnoiifakipliaaDoor
