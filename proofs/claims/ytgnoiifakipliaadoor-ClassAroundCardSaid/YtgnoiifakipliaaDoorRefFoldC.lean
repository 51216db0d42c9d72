/- Walks over the reference of layer 2: what a character is folded to, third part. -/
import Derived.Test.YtgnoiifakipliaaDoorRefFoldB
namespace Go.Proofs.YtgnoiifakipliaaDoor
open Go.RowKit Go.Lib
set_option maxRecDepth 100000
set_option linter.unusedVariables false

theorem rfold_24 (r : Nat) (h : 962 ≤ r) (h' : r ≤ 962) (w : World) : FoldsTo r w := by
  have e : foldC r = [963] := by
    unfold foldC
    repeat (first | rw [if_pos (by omega)] | rw [if_neg (by omega)])
  unfold FoldsTo
  rw [e]; clear e
  obtain rfl : r = 962 := by omega
  go_enter Tryd.func39, Tryd.ntmps39
  go_wp2
  go_ret
  exact ⟨rfl, rfl⟩

theorem rfold_25 (r : Nat) (h : 963 ≤ r) (h' : r ≤ 1023) (w : World) : FoldsTo r w := by
  have e : foldC r = [r] := by
    unfold foldC
    repeat (first | rw [if_pos (by omega)] | rw [if_neg (by omega)])
  unfold FoldsTo
  rw [e]; clear e
  have r0 : (0 : Int) ≤ (r : Int) := by omega
  have r1 : (r : Int) ≤ 1114111 := by omega
  have g0 : decide ((65 : Int) ≤ (r : Int)) = true := by simp; omega
  have g1 : decide ((192 : Int) ≤ (r : Int)) = true := by simp; omega
  have g2 : decide ((913 : Int) ≤ (r : Int)) = true := by simp; omega
  have g3 : decide ((1040 : Int) ≤ (r : Int)) = false := by simp; omega
  have g4 : decide ((1024 : Int) ≤ (r : Int)) = false := by simp; omega
  have g5 : decide ((256 : Int) ≤ (r : Int)) = true := by simp; omega
  have g6 : decide ((330 : Int) ≤ (r : Int)) = true := by simp; omega
  have g7 : decide ((7680 : Int) ≤ (r : Int)) = false := by simp; omega
  have g8 : decide ((313 : Int) ≤ (r : Int)) = true := by simp; omega
  have g9 : decide ((377 : Int) ≤ (r : Int)) = true := by simp; omega
  have l0 : decide ((r : Int) ≤ 90) = false := by simp; omega
  have l1 : decide ((r : Int) ≤ 222) = false := by simp; omega
  have l2 : decide ((r : Int) ≤ 937) = false := by simp; omega
  have l3 : decide ((r : Int) ≤ 1071) = true := by simp; omega
  have l4 : decide ((r : Int) ≤ 1039) = true := by simp; omega
  have l5 : decide ((r : Int) ≤ 311) = false := by simp; omega
  have l6 : decide ((r : Int) ≤ 375) = false := by simp; omega
  have l7 : decide ((r : Int) ≤ 7829) = true := by simp; omega
  have l8 : decide ((r : Int) ≤ 328) = false := by simp; omega
  have l9 : decide ((r : Int) ≤ 382) = false := by simp; omega
  have q0 : ((r : Int) == 223) = false := beq_eq_false_iff_ne.2 (by omega)
  have q1 : ((r : Int) == 7838) = false := beq_eq_false_iff_ne.2 (by omega)
  have q2 : ((r : Int) == 962) = false := beq_eq_false_iff_ne.2 (by omega)
  have n0 : ((r : Int) != 215) = true := by rw [bne_iff_ne]; omega
  have n1 : ((r : Int) != 930) = true := by rw [bne_iff_ne]; omega
  clear h h'
  go_enter Tryd.func39, Tryd.ntmps39
  go_wp2
  go_ret
  exact ⟨rfl, rfl⟩

theorem rfold_26 (r : Nat) (h : 1024 ≤ r) (h' : r ≤ 1039) (w : World) : FoldsTo r w := by
  have e : foldC r = [r + 80] := by
    unfold foldC
    repeat (first | rw [if_pos (by omega)] | rw [if_neg (by omega)])
  unfold FoldsTo
  rw [e]; clear e
  have r0 : (0 : Int) ≤ (r : Int) := by omega
  have r1 : (r : Int) ≤ 1114111 := by omega
  have g0 : decide ((65 : Int) ≤ (r : Int)) = true := by simp; omega
  have g1 : decide ((192 : Int) ≤ (r : Int)) = true := by simp; omega
  have g2 : decide ((913 : Int) ≤ (r : Int)) = true := by simp; omega
  have g3 : decide ((1040 : Int) ≤ (r : Int)) = false := by simp; omega
  have g4 : decide ((1024 : Int) ≤ (r : Int)) = true := by simp; omega
  have g5 : decide ((256 : Int) ≤ (r : Int)) = true := by simp; omega
  have g6 : decide ((330 : Int) ≤ (r : Int)) = true := by simp; omega
  have g7 : decide ((7680 : Int) ≤ (r : Int)) = false := by simp; omega
  have g8 : decide ((313 : Int) ≤ (r : Int)) = true := by simp; omega
  have g9 : decide ((377 : Int) ≤ (r : Int)) = true := by simp; omega
  have l0 : decide ((r : Int) ≤ 90) = false := by simp; omega
  have l1 : decide ((r : Int) ≤ 222) = false := by simp; omega
  have l2 : decide ((r : Int) ≤ 937) = false := by simp; omega
  have l3 : decide ((r : Int) ≤ 1071) = true := by simp; omega
  have l4 : decide ((r : Int) ≤ 1039) = true := by simp; omega
  have l5 : decide ((r : Int) ≤ 311) = false := by simp; omega
  have l6 : decide ((r : Int) ≤ 375) = false := by simp; omega
  have l7 : decide ((r : Int) ≤ 7829) = true := by simp; omega
  have l8 : decide ((r : Int) ≤ 328) = false := by simp; omega
  have l9 : decide ((r : Int) ≤ 382) = false := by simp; omega
  have q0 : ((r : Int) == 223) = false := beq_eq_false_iff_ne.2 (by omega)
  have q1 : ((r : Int) == 7838) = false := beq_eq_false_iff_ne.2 (by omega)
  have q2 : ((r : Int) == 962) = false := beq_eq_false_iff_ne.2 (by omega)
  have n0 : ((r : Int) != 215) = true := by rw [bne_iff_ne]; omega
  have n1 : ((r : Int) != 930) = true := by rw [bne_iff_ne]; omega
  clear h h'
  go_enter Tryd.func39, Tryd.ntmps39
  go_wp2
  go_ret
  exact ⟨rfl, rfl⟩

theorem rfold_27 (r : Nat) (h : 1040 ≤ r) (h' : r ≤ 1071) (w : World) : FoldsTo r w := by
  have e : foldC r = [r + 32] := by
    unfold foldC
    repeat (first | rw [if_pos (by omega)] | rw [if_neg (by omega)])
  unfold FoldsTo
  rw [e]; clear e
  have r0 : (0 : Int) ≤ (r : Int) := by omega
  have r1 : (r : Int) ≤ 1114111 := by omega
  have g0 : decide ((65 : Int) ≤ (r : Int)) = true := by simp; omega
  have g1 : decide ((192 : Int) ≤ (r : Int)) = true := by simp; omega
  have g2 : decide ((913 : Int) ≤ (r : Int)) = true := by simp; omega
  have g3 : decide ((1040 : Int) ≤ (r : Int)) = true := by simp; omega
  have g4 : decide ((1024 : Int) ≤ (r : Int)) = true := by simp; omega
  have g5 : decide ((256 : Int) ≤ (r : Int)) = true := by simp; omega
  have g6 : decide ((330 : Int) ≤ (r : Int)) = true := by simp; omega
  have g7 : decide ((7680 : Int) ≤ (r : Int)) = false := by simp; omega
  have g8 : decide ((313 : Int) ≤ (r : Int)) = true := by simp; omega
  have g9 : decide ((377 : Int) ≤ (r : Int)) = true := by simp; omega
  have l0 : decide ((r : Int) ≤ 90) = false := by simp; omega
  have l1 : decide ((r : Int) ≤ 222) = false := by simp; omega
  have l2 : decide ((r : Int) ≤ 937) = false := by simp; omega
  have l3 : decide ((r : Int) ≤ 1071) = true := by simp; omega
  have l4 : decide ((r : Int) ≤ 1039) = false := by simp; omega
  have l5 : decide ((r : Int) ≤ 311) = false := by simp; omega
  have l6 : decide ((r : Int) ≤ 375) = false := by simp; omega
  have l7 : decide ((r : Int) ≤ 7829) = true := by simp; omega
  have l8 : decide ((r : Int) ≤ 328) = false := by simp; omega
  have l9 : decide ((r : Int) ≤ 382) = false := by simp; omega
  have q0 : ((r : Int) == 223) = false := beq_eq_false_iff_ne.2 (by omega)
  have q1 : ((r : Int) == 7838) = false := beq_eq_false_iff_ne.2 (by omega)
  have q2 : ((r : Int) == 962) = false := beq_eq_false_iff_ne.2 (by omega)
  have n0 : ((r : Int) != 215) = true := by rw [bne_iff_ne]; omega
  have n1 : ((r : Int) != 930) = true := by rw [bne_iff_ne]; omega
  clear h h'
  go_enter Tryd.func39, Tryd.ntmps39
  go_wp2
  go_ret
  exact ⟨rfl, rfl⟩

theorem rfold_28 (r : Nat) (h : 1072 ≤ r) (h' : r ≤ 7679) (w : World) : FoldsTo r w := by
  have e : foldC r = [r] := by
    unfold foldC
    repeat (first | rw [if_pos (by omega)] | rw [if_neg (by omega)])
  unfold FoldsTo
  rw [e]; clear e
  have r0 : (0 : Int) ≤ (r : Int) := by omega
  have r1 : (r : Int) ≤ 1114111 := by omega
  have g0 : decide ((65 : Int) ≤ (r : Int)) = true := by simp; omega
  have g1 : decide ((192 : Int) ≤ (r : Int)) = true := by simp; omega
  have g2 : decide ((913 : Int) ≤ (r : Int)) = true := by simp; omega
  have g3 : decide ((1040 : Int) ≤ (r : Int)) = true := by simp; omega
  have g4 : decide ((1024 : Int) ≤ (r : Int)) = true := by simp; omega
  have g5 : decide ((256 : Int) ≤ (r : Int)) = true := by simp; omega
  have g6 : decide ((330 : Int) ≤ (r : Int)) = true := by simp; omega
  have g7 : decide ((7680 : Int) ≤ (r : Int)) = false := by simp; omega
  have g8 : decide ((313 : Int) ≤ (r : Int)) = true := by simp; omega
  have g9 : decide ((377 : Int) ≤ (r : Int)) = true := by simp; omega
  have l0 : decide ((r : Int) ≤ 90) = false := by simp; omega
  have l1 : decide ((r : Int) ≤ 222) = false := by simp; omega
  have l2 : decide ((r : Int) ≤ 937) = false := by simp; omega
  have l3 : decide ((r : Int) ≤ 1071) = false := by simp; omega
  have l4 : decide ((r : Int) ≤ 1039) = false := by simp; omega
  have l5 : decide ((r : Int) ≤ 311) = false := by simp; omega
  have l6 : decide ((r : Int) ≤ 375) = false := by simp; omega
  have l7 : decide ((r : Int) ≤ 7829) = true := by simp; omega
  have l8 : decide ((r : Int) ≤ 328) = false := by simp; omega
  have l9 : decide ((r : Int) ≤ 382) = false := by simp; omega
  have q0 : ((r : Int) == 223) = false := beq_eq_false_iff_ne.2 (by omega)
  have q1 : ((r : Int) == 7838) = false := beq_eq_false_iff_ne.2 (by omega)
  have q2 : ((r : Int) == 962) = false := beq_eq_false_iff_ne.2 (by omega)
  have n0 : ((r : Int) != 215) = true := by rw [bne_iff_ne]; omega
  have n1 : ((r : Int) != 930) = true := by rw [bne_iff_ne]; omega
  clear h h'
  go_enter Tryd.func39, Tryd.ntmps39
  go_wp2
  go_ret
  exact ⟨rfl, rfl⟩

theorem rfold_29 (r : Nat) (h : 7680 ≤ r) (h' : r ≤ 7829) (hp : r % 2 = 0) (w : World) : FoldsTo r w := by
  have e : foldC r = [r + 1] := by
    unfold foldC
    repeat (first | rw [if_pos (by omega)] | rw [if_neg (by omega)])
  unfold FoldsTo
  rw [e]; clear e
  have r0 : (0 : Int) ≤ (r : Int) := by omega
  have r1 : (r : Int) ≤ 1114111 := by omega
  have g0 : decide ((65 : Int) ≤ (r : Int)) = true := by simp; omega
  have g1 : decide ((192 : Int) ≤ (r : Int)) = true := by simp; omega
  have g2 : decide ((913 : Int) ≤ (r : Int)) = true := by simp; omega
  have g3 : decide ((1040 : Int) ≤ (r : Int)) = true := by simp; omega
  have g4 : decide ((1024 : Int) ≤ (r : Int)) = true := by simp; omega
  have g5 : decide ((256 : Int) ≤ (r : Int)) = true := by simp; omega
  have g6 : decide ((330 : Int) ≤ (r : Int)) = true := by simp; omega
  have g7 : decide ((7680 : Int) ≤ (r : Int)) = true := by simp; omega
  have g8 : decide ((313 : Int) ≤ (r : Int)) = true := by simp; omega
  have g9 : decide ((377 : Int) ≤ (r : Int)) = true := by simp; omega
  have l0 : decide ((r : Int) ≤ 90) = false := by simp; omega
  have l1 : decide ((r : Int) ≤ 222) = false := by simp; omega
  have l2 : decide ((r : Int) ≤ 937) = false := by simp; omega
  have l3 : decide ((r : Int) ≤ 1071) = false := by simp; omega
  have l4 : decide ((r : Int) ≤ 1039) = false := by simp; omega
  have l5 : decide ((r : Int) ≤ 311) = false := by simp; omega
  have l6 : decide ((r : Int) ≤ 375) = false := by simp; omega
  have l7 : decide ((r : Int) ≤ 7829) = true := by simp; omega
  have l8 : decide ((r : Int) ≤ 328) = false := by simp; omega
  have l9 : decide ((r : Int) ≤ 382) = false := by simp; omega
  have q0 : ((r : Int) == 223) = false := beq_eq_false_iff_ne.2 (by omega)
  have q1 : ((r : Int) == 7838) = false := beq_eq_false_iff_ne.2 (by omega)
  have q2 : ((r : Int) == 962) = false := beq_eq_false_iff_ne.2 (by omega)
  have n0 : ((r : Int) != 215) = true := by rw [bne_iff_ne]; omega
  have n1 : ((r : Int) != 930) = true := by rw [bne_iff_ne]; omega
  have p0 : ((r : Int) % 2 == 0) = true := by first | exact beq_iff_eq.2 (by omega) | exact beq_eq_false_iff_ne.2 (by omega)
  have p1 : ((r : Int) % 2 == 1) = false := by first | exact beq_iff_eq.2 (by omega) | exact beq_eq_false_iff_ne.2 (by omega)
  clear hp
  clear h h'
  go_enter Tryd.func39, Tryd.ntmps39
  go_wp2
  go_ret
  exact ⟨rfl, rfl⟩

theorem rfold_30 (r : Nat) (h : 7680 ≤ r) (h' : r ≤ 7829) (hp : r % 2 = 1) (w : World) : FoldsTo r w := by
  have e : foldC r = [r] := by
    unfold foldC
    repeat (first | rw [if_pos (by omega)] | rw [if_neg (by omega)])
  unfold FoldsTo
  rw [e]; clear e
  have r0 : (0 : Int) ≤ (r : Int) := by omega
  have r1 : (r : Int) ≤ 1114111 := by omega
  have g0 : decide ((65 : Int) ≤ (r : Int)) = true := by simp; omega
  have g1 : decide ((192 : Int) ≤ (r : Int)) = true := by simp; omega
  have g2 : decide ((913 : Int) ≤ (r : Int)) = true := by simp; omega
  have g3 : decide ((1040 : Int) ≤ (r : Int)) = true := by simp; omega
  have g4 : decide ((1024 : Int) ≤ (r : Int)) = true := by simp; omega
  have g5 : decide ((256 : Int) ≤ (r : Int)) = true := by simp; omega
  have g6 : decide ((330 : Int) ≤ (r : Int)) = true := by simp; omega
  have g7 : decide ((7680 : Int) ≤ (r : Int)) = true := by simp; omega
  have g8 : decide ((313 : Int) ≤ (r : Int)) = true := by simp; omega
  have g9 : decide ((377 : Int) ≤ (r : Int)) = true := by simp; omega
  have l0 : decide ((r : Int) ≤ 90) = false := by simp; omega
  have l1 : decide ((r : Int) ≤ 222) = false := by simp; omega
  have l2 : decide ((r : Int) ≤ 937) = false := by simp; omega
  have l3 : decide ((r : Int) ≤ 1071) = false := by simp; omega
  have l4 : decide ((r : Int) ≤ 1039) = false := by simp; omega
  have l5 : decide ((r : Int) ≤ 311) = false := by simp; omega
  have l6 : decide ((r : Int) ≤ 375) = false := by simp; omega
  have l7 : decide ((r : Int) ≤ 7829) = true := by simp; omega
  have l8 : decide ((r : Int) ≤ 328) = false := by simp; omega
  have l9 : decide ((r : Int) ≤ 382) = false := by simp; omega
  have q0 : ((r : Int) == 223) = false := beq_eq_false_iff_ne.2 (by omega)
  have q1 : ((r : Int) == 7838) = false := beq_eq_false_iff_ne.2 (by omega)
  have q2 : ((r : Int) == 962) = false := beq_eq_false_iff_ne.2 (by omega)
  have n0 : ((r : Int) != 215) = true := by rw [bne_iff_ne]; omega
  have n1 : ((r : Int) != 930) = true := by rw [bne_iff_ne]; omega
  have p0 : ((r : Int) % 2 == 0) = false := by first | exact beq_iff_eq.2 (by omega) | exact beq_eq_false_iff_ne.2 (by omega)
  have p1 : ((r : Int) % 2 == 1) = true := by first | exact beq_iff_eq.2 (by omega) | exact beq_eq_false_iff_ne.2 (by omega)
  clear hp
  clear h h'
  go_enter Tryd.func39, Tryd.ntmps39
  go_wp2
  go_ret
  exact ⟨rfl, rfl⟩

theorem rfold_31 (r : Nat) (h : 7830 ≤ r) (h' : r ≤ 7837) (w : World) : FoldsTo r w := by
  have e : foldC r = [r] := by
    unfold foldC
    repeat (first | rw [if_pos (by omega)] | rw [if_neg (by omega)])
  unfold FoldsTo
  rw [e]; clear e
  have r0 : (0 : Int) ≤ (r : Int) := by omega
  have r1 : (r : Int) ≤ 1114111 := by omega
  have g0 : decide ((65 : Int) ≤ (r : Int)) = true := by simp; omega
  have g1 : decide ((192 : Int) ≤ (r : Int)) = true := by simp; omega
  have g2 : decide ((913 : Int) ≤ (r : Int)) = true := by simp; omega
  have g3 : decide ((1040 : Int) ≤ (r : Int)) = true := by simp; omega
  have g4 : decide ((1024 : Int) ≤ (r : Int)) = true := by simp; omega
  have g5 : decide ((256 : Int) ≤ (r : Int)) = true := by simp; omega
  have g6 : decide ((330 : Int) ≤ (r : Int)) = true := by simp; omega
  have g7 : decide ((7680 : Int) ≤ (r : Int)) = true := by simp; omega
  have g8 : decide ((313 : Int) ≤ (r : Int)) = true := by simp; omega
  have g9 : decide ((377 : Int) ≤ (r : Int)) = true := by simp; omega
  have l0 : decide ((r : Int) ≤ 90) = false := by simp; omega
  have l1 : decide ((r : Int) ≤ 222) = false := by simp; omega
  have l2 : decide ((r : Int) ≤ 937) = false := by simp; omega
  have l3 : decide ((r : Int) ≤ 1071) = false := by simp; omega
  have l4 : decide ((r : Int) ≤ 1039) = false := by simp; omega
  have l5 : decide ((r : Int) ≤ 311) = false := by simp; omega
  have l6 : decide ((r : Int) ≤ 375) = false := by simp; omega
  have l7 : decide ((r : Int) ≤ 7829) = false := by simp; omega
  have l8 : decide ((r : Int) ≤ 328) = false := by simp; omega
  have l9 : decide ((r : Int) ≤ 382) = false := by simp; omega
  have q0 : ((r : Int) == 223) = false := beq_eq_false_iff_ne.2 (by omega)
  have q1 : ((r : Int) == 7838) = false := beq_eq_false_iff_ne.2 (by omega)
  have q2 : ((r : Int) == 962) = false := beq_eq_false_iff_ne.2 (by omega)
  have n0 : ((r : Int) != 215) = true := by rw [bne_iff_ne]; omega
  have n1 : ((r : Int) != 930) = true := by rw [bne_iff_ne]; omega
  clear h h'
  go_enter Tryd.func39, Tryd.ntmps39
  go_wp2
  go_ret
  exact ⟨rfl, rfl⟩

theorem rfold_32 (r : Nat) (h : 7838 ≤ r) (h' : r ≤ 7838) (w : World) : FoldsTo r w := by
  have e : foldC r = [115, 115] := by
    unfold foldC
    repeat (first | rw [if_pos (by omega)] | rw [if_neg (by omega)])
  unfold FoldsTo
  rw [e]; clear e
  obtain rfl : r = 7838 := by omega
  go_enter Tryd.func39, Tryd.ntmps39
  go_wp2
  go_ret
  exact ⟨rfl, rfl⟩

theorem rfold_33 (r : Nat) (h : 7839 ≤ r) (h' : r ≤ 1114111) (w : World) : FoldsTo r w := by
  have e : foldC r = [r] := by
    unfold foldC
    repeat (first | rw [if_pos (by omega)] | rw [if_neg (by omega)])
  unfold FoldsTo
  rw [e]; clear e
  have r0 : (0 : Int) ≤ (r : Int) := by omega
  have r1 : (r : Int) ≤ 1114111 := by omega
  have g0 : decide ((65 : Int) ≤ (r : Int)) = true := by simp; omega
  have g1 : decide ((192 : Int) ≤ (r : Int)) = true := by simp; omega
  have g2 : decide ((913 : Int) ≤ (r : Int)) = true := by simp; omega
  have g3 : decide ((1040 : Int) ≤ (r : Int)) = true := by simp; omega
  have g4 : decide ((1024 : Int) ≤ (r : Int)) = true := by simp; omega
  have g5 : decide ((256 : Int) ≤ (r : Int)) = true := by simp; omega
  have g6 : decide ((330 : Int) ≤ (r : Int)) = true := by simp; omega
  have g7 : decide ((7680 : Int) ≤ (r : Int)) = true := by simp; omega
  have g8 : decide ((313 : Int) ≤ (r : Int)) = true := by simp; omega
  have g9 : decide ((377 : Int) ≤ (r : Int)) = true := by simp; omega
  have l0 : decide ((r : Int) ≤ 90) = false := by simp; omega
  have l1 : decide ((r : Int) ≤ 222) = false := by simp; omega
  have l2 : decide ((r : Int) ≤ 937) = false := by simp; omega
  have l3 : decide ((r : Int) ≤ 1071) = false := by simp; omega
  have l4 : decide ((r : Int) ≤ 1039) = false := by simp; omega
  have l5 : decide ((r : Int) ≤ 311) = false := by simp; omega
  have l6 : decide ((r : Int) ≤ 375) = false := by simp; omega
  have l7 : decide ((r : Int) ≤ 7829) = false := by simp; omega
  have l8 : decide ((r : Int) ≤ 328) = false := by simp; omega
  have l9 : decide ((r : Int) ≤ 382) = false := by simp; omega
  have q0 : ((r : Int) == 223) = false := beq_eq_false_iff_ne.2 (by omega)
  have q1 : ((r : Int) == 7838) = false := beq_eq_false_iff_ne.2 (by omega)
  have q2 : ((r : Int) == 962) = false := beq_eq_false_iff_ne.2 (by omega)
  have n0 : ((r : Int) != 215) = true := by rw [bne_iff_ne]; omega
  have n1 : ((r : Int) != 930) = true := by rw [bne_iff_ne]; omega
  clear h h'
  go_enter Tryd.func39, Tryd.ntmps39
  go_wp2
  go_ret
  exact ⟨rfl, rfl⟩

theorem rfold_any (r : Nat) (h : r ≤ 1114111) (w : World) : FoldsTo r w := by
  by_cases c0 : r ≤ 64
  · exact rfold_0 r (by omega) c0 w
  by_cases c1 : r ≤ 90
  · exact rfold_1 r (by omega) c1 w
  by_cases c2 : r ≤ 191
  · exact rfold_2 r (by omega) c2 w
  by_cases c3 : r ≤ 214
  · exact rfold_3 r (by omega) c3 w
  by_cases c4 : r ≤ 215
  · exact rfold_4 r (by omega) c4 w
  by_cases c5 : r ≤ 222
  · exact rfold_5 r (by omega) c5 w
  by_cases c6 : r ≤ 223
  · exact rfold_6 r (by omega) c6 w
  by_cases c7 : r ≤ 255
  · exact rfold_7 r (by omega) c7 w
  by_cases c8 : r ≤ 311 ∧ r % 2 = 0
  · exact rfold_8 r (by omega) c8.1 c8.2 w
  by_cases c9 : r ≤ 311
  · exact rfold_9 r (by omega) c9 (by omega) w
  by_cases c10 : r ≤ 312
  · exact rfold_10 r (by omega) c10 w
  by_cases c11 : r ≤ 328 ∧ r % 2 = 0
  · exact rfold_11 r (by omega) c11.1 c11.2 w
  by_cases c12 : r ≤ 328
  · exact rfold_12 r (by omega) c12 (by omega) w
  by_cases c13 : r ≤ 329
  · exact rfold_13 r (by omega) c13 w
  by_cases c14 : r ≤ 375 ∧ r % 2 = 0
  · exact rfold_14 r (by omega) c14.1 c14.2 w
  by_cases c15 : r ≤ 375
  · exact rfold_15 r (by omega) c15 (by omega) w
  by_cases c16 : r ≤ 376
  · exact rfold_16 r (by omega) c16 w
  by_cases c17 : r ≤ 382 ∧ r % 2 = 0
  · exact rfold_17 r (by omega) c17.1 c17.2 w
  by_cases c18 : r ≤ 382
  · exact rfold_18 r (by omega) c18 (by omega) w
  by_cases c19 : r ≤ 912
  · exact rfold_19 r (by omega) c19 w
  by_cases c20 : r ≤ 929
  · exact rfold_20 r (by omega) c20 w
  by_cases c21 : r ≤ 930
  · exact rfold_21 r (by omega) c21 w
  by_cases c22 : r ≤ 937
  · exact rfold_22 r (by omega) c22 w
  by_cases c23 : r ≤ 961
  · exact rfold_23 r (by omega) c23 w
  by_cases c24 : r ≤ 962
  · exact rfold_24 r (by omega) c24 w
  by_cases c25 : r ≤ 1023
  · exact rfold_25 r (by omega) c25 w
  by_cases c26 : r ≤ 1039
  · exact rfold_26 r (by omega) c26 w
  by_cases c27 : r ≤ 1071
  · exact rfold_27 r (by omega) c27 w
  by_cases c28 : r ≤ 7679
  · exact rfold_28 r (by omega) c28 w
  by_cases c29 : r ≤ 7829 ∧ r % 2 = 0
  · exact rfold_29 r (by omega) c29.1 c29.2 w
  by_cases c30 : r ≤ 7829
  · exact rfold_30 r (by omega) c30 (by omega) w
  by_cases c31 : r ≤ 7837
  · exact rfold_31 r (by omega) c31 w
  by_cases c32 : r ≤ 7838
  · exact rfold_32 r (by omega) c32 w
  exact rfold_33 r (by omega) h w
end Go.Proofs.YtgnoiifakipliaaDoor
