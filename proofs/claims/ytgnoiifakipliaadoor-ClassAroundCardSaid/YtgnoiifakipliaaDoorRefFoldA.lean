/- Walks over the reference of layer 2: what a character is folded to, first part. -/
import Derived.Test.YtgnoiifakipliaaDoorClass
namespace Go.Proofs.YtgnoiifakipliaaDoor
open Go.RowKit Go.Lib
set_option maxRecDepth 100000
set_option linter.unusedVariables false

/-- The cells of a row of characters' numbers. -/
def runeRow (l : List Nat) : List Value := l.map fun (c : Nat) => Value.int .i32 (c : Int)
def FoldsTo (r : Nat) (w : World) : Prop :=
    Calls Tryd.prog 39 #[.int .i32 r] w fun e w' => e = .returned (.slice (some ⟨w.heap.size, 0, none⟩) (foldC r).length (foldC r).length) ∧
      w' = w.alloc (.cells (runeRow (foldC r)).toArray 21 (0, 0))

theorem rfold_0 (r : Nat) (h : 0 ≤ r) (h' : r ≤ 64) (w : World) : FoldsTo r w := by
  have e : foldC r = [r] := by
    unfold foldC
    repeat (first | rw [if_pos (by omega)] | rw [if_neg (by omega)])
  unfold FoldsTo
  rw [e]; clear e
  have r0 : (0 : Int) ≤ (r : Int) := by omega
  have r1 : (r : Int) ≤ 1114111 := by omega
  have g0 : decide ((65 : Int) ≤ (r : Int)) = false := by simp; omega
  have g1 : decide ((192 : Int) ≤ (r : Int)) = false := by simp; omega
  have g2 : decide ((913 : Int) ≤ (r : Int)) = false := by simp; omega
  have g3 : decide ((1040 : Int) ≤ (r : Int)) = false := by simp; omega
  have g4 : decide ((1024 : Int) ≤ (r : Int)) = false := by simp; omega
  have g5 : decide ((256 : Int) ≤ (r : Int)) = false := by simp; omega
  have g6 : decide ((330 : Int) ≤ (r : Int)) = false := by simp; omega
  have g7 : decide ((7680 : Int) ≤ (r : Int)) = false := by simp; omega
  have g8 : decide ((313 : Int) ≤ (r : Int)) = false := by simp; omega
  have g9 : decide ((377 : Int) ≤ (r : Int)) = false := by simp; omega
  have l0 : decide ((r : Int) ≤ 90) = true := by simp; omega
  have l1 : decide ((r : Int) ≤ 222) = true := by simp; omega
  have l2 : decide ((r : Int) ≤ 937) = true := by simp; omega
  have l3 : decide ((r : Int) ≤ 1071) = true := by simp; omega
  have l4 : decide ((r : Int) ≤ 1039) = true := by simp; omega
  have l5 : decide ((r : Int) ≤ 311) = true := by simp; omega
  have l6 : decide ((r : Int) ≤ 375) = true := by simp; omega
  have l7 : decide ((r : Int) ≤ 7829) = true := by simp; omega
  have l8 : decide ((r : Int) ≤ 328) = true := by simp; omega
  have l9 : decide ((r : Int) ≤ 382) = true := by simp; omega
  have q0 : ((r : Int) == 223) = false := beq_eq_false_iff_ne.2 (by omega)
  have q1 : ((r : Int) == 7838) = false := beq_eq_false_iff_ne.2 (by omega)
  have q2 : ((r : Int) == 962) = false := beq_eq_false_iff_ne.2 (by omega)
  have n0 : ((r : Int) != 215) = true := by rw [bne_iff_ne]; omega
  have n1 : ((r : Int) != 930) = true := by rw [bne_iff_ne]; omega
  clear h h'
  go_enter Tryd.func39, Tryd.ntmps39
  go_wp2
  go_ret
  exact ⟨rfl, rfl⟩

theorem rfold_1 (r : Nat) (h : 65 ≤ r) (h' : r ≤ 90) (w : World) : FoldsTo r w := by
  have e : foldC r = [r + 32] := by
    unfold foldC
    repeat (first | rw [if_pos (by omega)] | rw [if_neg (by omega)])
  unfold FoldsTo
  rw [e]; clear e
  have r0 : (0 : Int) ≤ (r : Int) := by omega
  have r1 : (r : Int) ≤ 1114111 := by omega
  have g0 : decide ((65 : Int) ≤ (r : Int)) = true := by simp; omega
  have g1 : decide ((192 : Int) ≤ (r : Int)) = false := by simp; omega
  have g2 : decide ((913 : Int) ≤ (r : Int)) = false := by simp; omega
  have g3 : decide ((1040 : Int) ≤ (r : Int)) = false := by simp; omega
  have g4 : decide ((1024 : Int) ≤ (r : Int)) = false := by simp; omega
  have g5 : decide ((256 : Int) ≤ (r : Int)) = false := by simp; omega
  have g6 : decide ((330 : Int) ≤ (r : Int)) = false := by simp; omega
  have g7 : decide ((7680 : Int) ≤ (r : Int)) = false := by simp; omega
  have g8 : decide ((313 : Int) ≤ (r : Int)) = false := by simp; omega
  have g9 : decide ((377 : Int) ≤ (r : Int)) = false := by simp; omega
  have l0 : decide ((r : Int) ≤ 90) = true := by simp; omega
  have l1 : decide ((r : Int) ≤ 222) = true := by simp; omega
  have l2 : decide ((r : Int) ≤ 937) = true := by simp; omega
  have l3 : decide ((r : Int) ≤ 1071) = true := by simp; omega
  have l4 : decide ((r : Int) ≤ 1039) = true := by simp; omega
  have l5 : decide ((r : Int) ≤ 311) = true := by simp; omega
  have l6 : decide ((r : Int) ≤ 375) = true := by simp; omega
  have l7 : decide ((r : Int) ≤ 7829) = true := by simp; omega
  have l8 : decide ((r : Int) ≤ 328) = true := by simp; omega
  have l9 : decide ((r : Int) ≤ 382) = true := by simp; omega
  have q0 : ((r : Int) == 223) = false := beq_eq_false_iff_ne.2 (by omega)
  have q1 : ((r : Int) == 7838) = false := beq_eq_false_iff_ne.2 (by omega)
  have q2 : ((r : Int) == 962) = false := beq_eq_false_iff_ne.2 (by omega)
  have n0 : ((r : Int) != 215) = true := by rw [bne_iff_ne]; omega
  have n1 : ((r : Int) != 930) = true := by rw [bne_iff_ne]; omega
  clear h h'
  go_enter Tryd.func39, Tryd.ntmps39
  go_wp2
  go_ret
  exact ⟨rfl, rfl⟩

theorem rfold_2 (r : Nat) (h : 91 ≤ r) (h' : r ≤ 191) (w : World) : FoldsTo r w := by
  have e : foldC r = [r] := by
    unfold foldC
    repeat (first | rw [if_pos (by omega)] | rw [if_neg (by omega)])
  unfold FoldsTo
  rw [e]; clear e
  have r0 : (0 : Int) ≤ (r : Int) := by omega
  have r1 : (r : Int) ≤ 1114111 := by omega
  have g0 : decide ((65 : Int) ≤ (r : Int)) = true := by simp; omega
  have g1 : decide ((192 : Int) ≤ (r : Int)) = false := by simp; omega
  have g2 : decide ((913 : Int) ≤ (r : Int)) = false := by simp; omega
  have g3 : decide ((1040 : Int) ≤ (r : Int)) = false := by simp; omega
  have g4 : decide ((1024 : Int) ≤ (r : Int)) = false := by simp; omega
  have g5 : decide ((256 : Int) ≤ (r : Int)) = false := by simp; omega
  have g6 : decide ((330 : Int) ≤ (r : Int)) = false := by simp; omega
  have g7 : decide ((7680 : Int) ≤ (r : Int)) = false := by simp; omega
  have g8 : decide ((313 : Int) ≤ (r : Int)) = false := by simp; omega
  have g9 : decide ((377 : Int) ≤ (r : Int)) = false := by simp; omega
  have l0 : decide ((r : Int) ≤ 90) = false := by simp; omega
  have l1 : decide ((r : Int) ≤ 222) = true := by simp; omega
  have l2 : decide ((r : Int) ≤ 937) = true := by simp; omega
  have l3 : decide ((r : Int) ≤ 1071) = true := by simp; omega
  have l4 : decide ((r : Int) ≤ 1039) = true := by simp; omega
  have l5 : decide ((r : Int) ≤ 311) = true := by simp; omega
  have l6 : decide ((r : Int) ≤ 375) = true := by simp; omega
  have l7 : decide ((r : Int) ≤ 7829) = true := by simp; omega
  have l8 : decide ((r : Int) ≤ 328) = true := by simp; omega
  have l9 : decide ((r : Int) ≤ 382) = true := by simp; omega
  have q0 : ((r : Int) == 223) = false := beq_eq_false_iff_ne.2 (by omega)
  have q1 : ((r : Int) == 7838) = false := beq_eq_false_iff_ne.2 (by omega)
  have q2 : ((r : Int) == 962) = false := beq_eq_false_iff_ne.2 (by omega)
  have n0 : ((r : Int) != 215) = true := by rw [bne_iff_ne]; omega
  have n1 : ((r : Int) != 930) = true := by rw [bne_iff_ne]; omega
  clear h h'
  go_enter Tryd.func39, Tryd.ntmps39
  go_wp2
  go_ret
  exact ⟨rfl, rfl⟩

theorem rfold_3 (r : Nat) (h : 192 ≤ r) (h' : r ≤ 214) (w : World) : FoldsTo r w := by
  have e : foldC r = [r + 32] := by
    unfold foldC
    repeat (first | rw [if_pos (by omega)] | rw [if_neg (by omega)])
  unfold FoldsTo
  rw [e]; clear e
  have r0 : (0 : Int) ≤ (r : Int) := by omega
  have r1 : (r : Int) ≤ 1114111 := by omega
  have g0 : decide ((65 : Int) ≤ (r : Int)) = true := by simp; omega
  have g1 : decide ((192 : Int) ≤ (r : Int)) = true := by simp; omega
  have g2 : decide ((913 : Int) ≤ (r : Int)) = false := by simp; omega
  have g3 : decide ((1040 : Int) ≤ (r : Int)) = false := by simp; omega
  have g4 : decide ((1024 : Int) ≤ (r : Int)) = false := by simp; omega
  have g5 : decide ((256 : Int) ≤ (r : Int)) = false := by simp; omega
  have g6 : decide ((330 : Int) ≤ (r : Int)) = false := by simp; omega
  have g7 : decide ((7680 : Int) ≤ (r : Int)) = false := by simp; omega
  have g8 : decide ((313 : Int) ≤ (r : Int)) = false := by simp; omega
  have g9 : decide ((377 : Int) ≤ (r : Int)) = false := by simp; omega
  have l0 : decide ((r : Int) ≤ 90) = false := by simp; omega
  have l1 : decide ((r : Int) ≤ 222) = true := by simp; omega
  have l2 : decide ((r : Int) ≤ 937) = true := by simp; omega
  have l3 : decide ((r : Int) ≤ 1071) = true := by simp; omega
  have l4 : decide ((r : Int) ≤ 1039) = true := by simp; omega
  have l5 : decide ((r : Int) ≤ 311) = true := by simp; omega
  have l6 : decide ((r : Int) ≤ 375) = true := by simp; omega
  have l7 : decide ((r : Int) ≤ 7829) = true := by simp; omega
  have l8 : decide ((r : Int) ≤ 328) = true := by simp; omega
  have l9 : decide ((r : Int) ≤ 382) = true := by simp; omega
  have q0 : ((r : Int) == 223) = false := beq_eq_false_iff_ne.2 (by omega)
  have q1 : ((r : Int) == 7838) = false := beq_eq_false_iff_ne.2 (by omega)
  have q2 : ((r : Int) == 962) = false := beq_eq_false_iff_ne.2 (by omega)
  have n0 : ((r : Int) != 215) = true := by rw [bne_iff_ne]; omega
  have n1 : ((r : Int) != 930) = true := by rw [bne_iff_ne]; omega
  clear h h'
  go_enter Tryd.func39, Tryd.ntmps39
  go_wp2
  go_ret
  exact ⟨rfl, rfl⟩

theorem rfold_4 (r : Nat) (h : 215 ≤ r) (h' : r ≤ 215) (w : World) : FoldsTo r w := by
  have e : foldC r = [r] := by
    unfold foldC
    repeat (first | rw [if_pos (by omega)] | rw [if_neg (by omega)])
  unfold FoldsTo
  rw [e]; clear e
  obtain rfl : r = 215 := by omega
  go_enter Tryd.func39, Tryd.ntmps39
  go_wp2
  go_ret
  exact ⟨rfl, rfl⟩

theorem rfold_5 (r : Nat) (h : 216 ≤ r) (h' : r ≤ 222) (w : World) : FoldsTo r w := by
  have e : foldC r = [r + 32] := by
    unfold foldC
    repeat (first | rw [if_pos (by omega)] | rw [if_neg (by omega)])
  unfold FoldsTo
  rw [e]; clear e
  have r0 : (0 : Int) ≤ (r : Int) := by omega
  have r1 : (r : Int) ≤ 1114111 := by omega
  have g0 : decide ((65 : Int) ≤ (r : Int)) = true := by simp; omega
  have g1 : decide ((192 : Int) ≤ (r : Int)) = true := by simp; omega
  have g2 : decide ((913 : Int) ≤ (r : Int)) = false := by simp; omega
  have g3 : decide ((1040 : Int) ≤ (r : Int)) = false := by simp; omega
  have g4 : decide ((1024 : Int) ≤ (r : Int)) = false := by simp; omega
  have g5 : decide ((256 : Int) ≤ (r : Int)) = false := by simp; omega
  have g6 : decide ((330 : Int) ≤ (r : Int)) = false := by simp; omega
  have g7 : decide ((7680 : Int) ≤ (r : Int)) = false := by simp; omega
  have g8 : decide ((313 : Int) ≤ (r : Int)) = false := by simp; omega
  have g9 : decide ((377 : Int) ≤ (r : Int)) = false := by simp; omega
  have l0 : decide ((r : Int) ≤ 90) = false := by simp; omega
  have l1 : decide ((r : Int) ≤ 222) = true := by simp; omega
  have l2 : decide ((r : Int) ≤ 937) = true := by simp; omega
  have l3 : decide ((r : Int) ≤ 1071) = true := by simp; omega
  have l4 : decide ((r : Int) ≤ 1039) = true := by simp; omega
  have l5 : decide ((r : Int) ≤ 311) = true := by simp; omega
  have l6 : decide ((r : Int) ≤ 375) = true := by simp; omega
  have l7 : decide ((r : Int) ≤ 7829) = true := by simp; omega
  have l8 : decide ((r : Int) ≤ 328) = true := by simp; omega
  have l9 : decide ((r : Int) ≤ 382) = true := by simp; omega
  have q0 : ((r : Int) == 223) = false := beq_eq_false_iff_ne.2 (by omega)
  have q1 : ((r : Int) == 7838) = false := beq_eq_false_iff_ne.2 (by omega)
  have q2 : ((r : Int) == 962) = false := beq_eq_false_iff_ne.2 (by omega)
  have n0 : ((r : Int) != 215) = true := by rw [bne_iff_ne]; omega
  have n1 : ((r : Int) != 930) = true := by rw [bne_iff_ne]; omega
  clear h h'
  go_enter Tryd.func39, Tryd.ntmps39
  go_wp2
  go_ret
  exact ⟨rfl, rfl⟩

theorem rfold_6 (r : Nat) (h : 223 ≤ r) (h' : r ≤ 223) (w : World) : FoldsTo r w := by
  have e : foldC r = [115, 115] := by
    unfold foldC
    repeat (first | rw [if_pos (by omega)] | rw [if_neg (by omega)])
  unfold FoldsTo
  rw [e]; clear e
  obtain rfl : r = 223 := by omega
  go_enter Tryd.func39, Tryd.ntmps39
  go_wp2
  go_ret
  exact ⟨rfl, rfl⟩

theorem rfold_7 (r : Nat) (h : 224 ≤ r) (h' : r ≤ 255) (w : World) : FoldsTo r w := by
  have e : foldC r = [r] := by
    unfold foldC
    repeat (first | rw [if_pos (by omega)] | rw [if_neg (by omega)])
  unfold FoldsTo
  rw [e]; clear e
  have r0 : (0 : Int) ≤ (r : Int) := by omega
  have r1 : (r : Int) ≤ 1114111 := by omega
  have g0 : decide ((65 : Int) ≤ (r : Int)) = true := by simp; omega
  have g1 : decide ((192 : Int) ≤ (r : Int)) = true := by simp; omega
  have g2 : decide ((913 : Int) ≤ (r : Int)) = false := by simp; omega
  have g3 : decide ((1040 : Int) ≤ (r : Int)) = false := by simp; omega
  have g4 : decide ((1024 : Int) ≤ (r : Int)) = false := by simp; omega
  have g5 : decide ((256 : Int) ≤ (r : Int)) = false := by simp; omega
  have g6 : decide ((330 : Int) ≤ (r : Int)) = false := by simp; omega
  have g7 : decide ((7680 : Int) ≤ (r : Int)) = false := by simp; omega
  have g8 : decide ((313 : Int) ≤ (r : Int)) = false := by simp; omega
  have g9 : decide ((377 : Int) ≤ (r : Int)) = false := by simp; omega
  have l0 : decide ((r : Int) ≤ 90) = false := by simp; omega
  have l1 : decide ((r : Int) ≤ 222) = false := by simp; omega
  have l2 : decide ((r : Int) ≤ 937) = true := by simp; omega
  have l3 : decide ((r : Int) ≤ 1071) = true := by simp; omega
  have l4 : decide ((r : Int) ≤ 1039) = true := by simp; omega
  have l5 : decide ((r : Int) ≤ 311) = true := by simp; omega
  have l6 : decide ((r : Int) ≤ 375) = true := by simp; omega
  have l7 : decide ((r : Int) ≤ 7829) = true := by simp; omega
  have l8 : decide ((r : Int) ≤ 328) = true := by simp; omega
  have l9 : decide ((r : Int) ≤ 382) = true := by simp; omega
  have q0 : ((r : Int) == 223) = false := beq_eq_false_iff_ne.2 (by omega)
  have q1 : ((r : Int) == 7838) = false := beq_eq_false_iff_ne.2 (by omega)
  have q2 : ((r : Int) == 962) = false := beq_eq_false_iff_ne.2 (by omega)
  have n0 : ((r : Int) != 215) = true := by rw [bne_iff_ne]; omega
  have n1 : ((r : Int) != 930) = true := by rw [bne_iff_ne]; omega
  clear h h'
  go_enter Tryd.func39, Tryd.ntmps39
  go_wp2
  go_ret
  exact ⟨rfl, rfl⟩

theorem rfold_8 (r : Nat) (h : 256 ≤ r) (h' : r ≤ 311) (hp : r % 2 = 0) (w : World) : FoldsTo r w := by
  have e : foldC r = [r + 1] := by
    unfold foldC
    repeat (first | rw [if_pos (by omega)] | rw [if_neg (by omega)])
  unfold FoldsTo
  rw [e]; clear e
  have r0 : (0 : Int) ≤ (r : Int) := by omega
  have r1 : (r : Int) ≤ 1114111 := by omega
  have g0 : decide ((65 : Int) ≤ (r : Int)) = true := by simp; omega
  have g1 : decide ((192 : Int) ≤ (r : Int)) = true := by simp; omega
  have g2 : decide ((913 : Int) ≤ (r : Int)) = false := by simp; omega
  have g3 : decide ((1040 : Int) ≤ (r : Int)) = false := by simp; omega
  have g4 : decide ((1024 : Int) ≤ (r : Int)) = false := by simp; omega
  have g5 : decide ((256 : Int) ≤ (r : Int)) = true := by simp; omega
  have g6 : decide ((330 : Int) ≤ (r : Int)) = false := by simp; omega
  have g7 : decide ((7680 : Int) ≤ (r : Int)) = false := by simp; omega
  have g8 : decide ((313 : Int) ≤ (r : Int)) = false := by simp; omega
  have g9 : decide ((377 : Int) ≤ (r : Int)) = false := by simp; omega
  have l0 : decide ((r : Int) ≤ 90) = false := by simp; omega
  have l1 : decide ((r : Int) ≤ 222) = false := by simp; omega
  have l2 : decide ((r : Int) ≤ 937) = true := by simp; omega
  have l3 : decide ((r : Int) ≤ 1071) = true := by simp; omega
  have l4 : decide ((r : Int) ≤ 1039) = true := by simp; omega
  have l5 : decide ((r : Int) ≤ 311) = true := by simp; omega
  have l6 : decide ((r : Int) ≤ 375) = true := by simp; omega
  have l7 : decide ((r : Int) ≤ 7829) = true := by simp; omega
  have l8 : decide ((r : Int) ≤ 328) = true := by simp; omega
  have l9 : decide ((r : Int) ≤ 382) = true := by simp; omega
  have q0 : ((r : Int) == 223) = false := beq_eq_false_iff_ne.2 (by omega)
  have q1 : ((r : Int) == 7838) = false := beq_eq_false_iff_ne.2 (by omega)
  have q2 : ((r : Int) == 962) = false := beq_eq_false_iff_ne.2 (by omega)
  have n0 : ((r : Int) != 215) = true := by rw [bne_iff_ne]; omega
  have n1 : ((r : Int) != 930) = true := by rw [bne_iff_ne]; omega
  have p0 : ((r : Int) % 2 == 0) = true := by first | exact beq_iff_eq.2 (by omega) | exact beq_eq_false_iff_ne.2 (by omega)
  have p1 : ((r : Int) % 2 == 1) = false := by first | exact beq_iff_eq.2 (by omega) | exact beq_eq_false_iff_ne.2 (by omega)
  clear hp
  clear h h'
  go_enter Tryd.func39, Tryd.ntmps39
  go_wp2
  go_ret
  exact ⟨rfl, rfl⟩

theorem rfold_9 (r : Nat) (h : 256 ≤ r) (h' : r ≤ 311) (hp : r % 2 = 1) (w : World) : FoldsTo r w := by
  have e : foldC r = [r] := by
    unfold foldC
    repeat (first | rw [if_pos (by omega)] | rw [if_neg (by omega)])
  unfold FoldsTo
  rw [e]; clear e
  have r0 : (0 : Int) ≤ (r : Int) := by omega
  have r1 : (r : Int) ≤ 1114111 := by omega
  have g0 : decide ((65 : Int) ≤ (r : Int)) = true := by simp; omega
  have g1 : decide ((192 : Int) ≤ (r : Int)) = true := by simp; omega
  have g2 : decide ((913 : Int) ≤ (r : Int)) = false := by simp; omega
  have g3 : decide ((1040 : Int) ≤ (r : Int)) = false := by simp; omega
  have g4 : decide ((1024 : Int) ≤ (r : Int)) = false := by simp; omega
  have g5 : decide ((256 : Int) ≤ (r : Int)) = true := by simp; omega
  have g6 : decide ((330 : Int) ≤ (r : Int)) = false := by simp; omega
  have g7 : decide ((7680 : Int) ≤ (r : Int)) = false := by simp; omega
  have g8 : decide ((313 : Int) ≤ (r : Int)) = false := by simp; omega
  have g9 : decide ((377 : Int) ≤ (r : Int)) = false := by simp; omega
  have l0 : decide ((r : Int) ≤ 90) = false := by simp; omega
  have l1 : decide ((r : Int) ≤ 222) = false := by simp; omega
  have l2 : decide ((r : Int) ≤ 937) = true := by simp; omega
  have l3 : decide ((r : Int) ≤ 1071) = true := by simp; omega
  have l4 : decide ((r : Int) ≤ 1039) = true := by simp; omega
  have l5 : decide ((r : Int) ≤ 311) = true := by simp; omega
  have l6 : decide ((r : Int) ≤ 375) = true := by simp; omega
  have l7 : decide ((r : Int) ≤ 7829) = true := by simp; omega
  have l8 : decide ((r : Int) ≤ 328) = true := by simp; omega
  have l9 : decide ((r : Int) ≤ 382) = true := by simp; omega
  have q0 : ((r : Int) == 223) = false := beq_eq_false_iff_ne.2 (by omega)
  have q1 : ((r : Int) == 7838) = false := beq_eq_false_iff_ne.2 (by omega)
  have q2 : ((r : Int) == 962) = false := beq_eq_false_iff_ne.2 (by omega)
  have n0 : ((r : Int) != 215) = true := by rw [bne_iff_ne]; omega
  have n1 : ((r : Int) != 930) = true := by rw [bne_iff_ne]; omega
  have p0 : ((r : Int) % 2 == 0) = false := by first | exact beq_iff_eq.2 (by omega) | exact beq_eq_false_iff_ne.2 (by omega)
  have p1 : ((r : Int) % 2 == 1) = true := by first | exact beq_iff_eq.2 (by omega) | exact beq_eq_false_iff_ne.2 (by omega)
  clear hp
  clear h h'
  go_enter Tryd.func39, Tryd.ntmps39
  go_wp2
  go_ret
  exact ⟨rfl, rfl⟩

theorem rfold_10 (r : Nat) (h : 312 ≤ r) (h' : r ≤ 312) (w : World) : FoldsTo r w := by
  have e : foldC r = [r] := by
    unfold foldC
    repeat (first | rw [if_pos (by omega)] | rw [if_neg (by omega)])
  unfold FoldsTo
  rw [e]; clear e
  obtain rfl : r = 312 := by omega
  go_enter Tryd.func39, Tryd.ntmps39
  go_wp2
  go_ret
  exact ⟨rfl, rfl⟩

theorem rfold_11 (r : Nat) (h : 313 ≤ r) (h' : r ≤ 328) (hp : r % 2 = 0) (w : World) : FoldsTo r w := by
  have e : foldC r = [r] := by
    unfold foldC
    repeat (first | rw [if_pos (by omega)] | rw [if_neg (by omega)])
  unfold FoldsTo
  rw [e]; clear e
  have r0 : (0 : Int) ≤ (r : Int) := by omega
  have r1 : (r : Int) ≤ 1114111 := by omega
  have g0 : decide ((65 : Int) ≤ (r : Int)) = true := by simp; omega
  have g1 : decide ((192 : Int) ≤ (r : Int)) = true := by simp; omega
  have g2 : decide ((913 : Int) ≤ (r : Int)) = false := by simp; omega
  have g3 : decide ((1040 : Int) ≤ (r : Int)) = false := by simp; omega
  have g4 : decide ((1024 : Int) ≤ (r : Int)) = false := by simp; omega
  have g5 : decide ((256 : Int) ≤ (r : Int)) = true := by simp; omega
  have g6 : decide ((330 : Int) ≤ (r : Int)) = false := by simp; omega
  have g7 : decide ((7680 : Int) ≤ (r : Int)) = false := by simp; omega
  have g8 : decide ((313 : Int) ≤ (r : Int)) = true := by simp; omega
  have g9 : decide ((377 : Int) ≤ (r : Int)) = false := by simp; omega
  have l0 : decide ((r : Int) ≤ 90) = false := by simp; omega
  have l1 : decide ((r : Int) ≤ 222) = false := by simp; omega
  have l2 : decide ((r : Int) ≤ 937) = true := by simp; omega
  have l3 : decide ((r : Int) ≤ 1071) = true := by simp; omega
  have l4 : decide ((r : Int) ≤ 1039) = true := by simp; omega
  have l5 : decide ((r : Int) ≤ 311) = false := by simp; omega
  have l6 : decide ((r : Int) ≤ 375) = true := by simp; omega
  have l7 : decide ((r : Int) ≤ 7829) = true := by simp; omega
  have l8 : decide ((r : Int) ≤ 328) = true := by simp; omega
  have l9 : decide ((r : Int) ≤ 382) = true := by simp; omega
  have q0 : ((r : Int) == 223) = false := beq_eq_false_iff_ne.2 (by omega)
  have q1 : ((r : Int) == 7838) = false := beq_eq_false_iff_ne.2 (by omega)
  have q2 : ((r : Int) == 962) = false := beq_eq_false_iff_ne.2 (by omega)
  have n0 : ((r : Int) != 215) = true := by rw [bne_iff_ne]; omega
  have n1 : ((r : Int) != 930) = true := by rw [bne_iff_ne]; omega
  have p0 : ((r : Int) % 2 == 0) = true := by first | exact beq_iff_eq.2 (by omega) | exact beq_eq_false_iff_ne.2 (by omega)
  have p1 : ((r : Int) % 2 == 1) = false := by first | exact beq_iff_eq.2 (by omega) | exact beq_eq_false_iff_ne.2 (by omega)
  clear hp
  clear h h'
  go_enter Tryd.func39, Tryd.ntmps39
  go_wp2
  go_ret
  exact ⟨rfl, rfl⟩
end Go.Proofs.YtgnoiifakipliaaDoor
