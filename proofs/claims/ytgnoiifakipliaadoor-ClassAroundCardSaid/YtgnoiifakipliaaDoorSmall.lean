/- Walks: package class, small. -/
import Derived.Test.YtgnoiifakipliaaDoorCls
import Derived.Laws.Entries
namespace Go.Proofs.YtgnoiifakipliaaDoor
open Go.RowKit Go.Lib
set_option maxRecDepth 100000
set_option linter.unusedVariables false

/-- The small letter of a character. -/
def smallN (r : Nat) : Nat :=
  if r = 215 ∨ r = 930 then r
  else if (65 ≤ r ∧ r ≤ 90) ∨ (192 ≤ r ∧ r ≤ 222) ∨ (913 ≤ r ∧ r ≤ 937) ∨ (1040 ≤ r ∧ r ≤ 1071) then r + 32
  else if 1024 ≤ r ∧ r ≤ 1039 then r + 80
  else if r = 962 then 963
  else if (256 ≤ r ∧ r ≤ 311) ∨ (330 ≤ r ∧ r ≤ 375) ∨ (7680 ≤ r ∧ r ≤ 7829) then (if r % 2 = 0 then r + 1 else r)
  else if (313 ≤ r ∧ r ≤ 328) ∨ (377 ≤ r ∧ r ≤ 382) then (if r % 2 = 1 then r + 1 else r)
  else r
theorem smallN_le (r : Nat) (h : r ≤ 1114111) : smallN r ≤ 1114111 := by
  unfold smallN
  repeat' split
  all_goals omega
theorem foldC_small (r : Nat) (h1 : ¬ r = 223) (h2 : ¬ r = 7838) : foldC r = [smallN r] := by
  unfold foldC smallN
  rw [if_neg (by omega)]
  by_cases a1 : (65 ≤ r ∧ r ≤ 90) ∨ (192 ≤ r ∧ r ≤ 222 ∧ r ≠ 215) ∨ (913 ≤ r ∧ r ≤ 937 ∧ r ≠ 930) ∨ (1040 ≤ r ∧ r ≤ 1071)
  · rw [if_pos a1, if_neg (by omega), if_pos (by omega)]
  rw [if_neg a1]
  by_cases a2 : 1024 ≤ r ∧ r ≤ 1039
  · rw [if_pos a2, if_neg (by omega), if_neg (by omega), if_pos a2]
  rw [if_neg a2]
  by_cases a3 : r = 962
  · rw [if_pos a3, if_neg (by omega), if_neg (by omega), if_neg (by omega), if_pos a3]
  rw [if_neg a3]
  by_cases a4 : (256 ≤ r ∧ r ≤ 311) ∨ (330 ≤ r ∧ r ≤ 375) ∨ (7680 ≤ r ∧ r ≤ 7829)
  · by_cases a5 : r % 2 = 0
    · rw [if_pos ⟨a4, a5⟩, if_neg (by omega), if_neg (by omega), if_neg (by omega), if_neg a3, if_pos a4, if_pos a5]
    · rw [if_neg (by omega), if_neg (by omega), if_neg (by omega), if_neg (by omega), if_neg (by omega), if_neg a3, if_pos a4, if_neg a5]
  rw [if_neg (by omega)]
  by_cases a6 : (313 ≤ r ∧ r ≤ 328) ∨ (377 ≤ r ∧ r ≤ 382)
  · by_cases a7 : r % 2 = 1
    · rw [if_pos ⟨a6, a7⟩, if_neg (by omega), if_neg (by omega), if_neg (by omega), if_neg a3, if_neg a4, if_pos a6, if_pos a7]
    · rw [if_neg (by omega), if_neg (by omega), if_neg (by omega), if_neg (by omega), if_neg a3, if_neg a4, if_pos a6, if_neg a7]
  rw [if_neg (by omega)]
  by_cases a8 : r = 215 ∨ r = 930
  · rw [if_pos a8]
  · rw [if_neg a8, if_neg (by omega), if_neg (by omega), if_neg a3, if_neg a4, if_neg a6]
theorem or_one (r : Nat) : r ||| 1 = if r % 2 = 0 then r + 1 else r := by
  obtain ⟨q, b, hb, rfl⟩ : ∃ q b, b < 2 ∧ r = 2 * q + b := ⟨r / 2, r % 2, by omega, by omega⟩
  have key : ∀ b, b < 2 → 2 * q + b = 2 * q ||| b := fun b hb => Nat.two_pow_add_eq_or_of_lt (i := 1) (by simpa using hb) q
  rw [key b hb, Nat.or_assoc]
  have hq := key 1 (by omega)
  have hb' := key b hb
  rcases (show b = 0 ∨ b = 1 by omega) with rfl | rfl
  · rw [show (0 ||| 1 : Nat) = 1 from rfl, Nat.or_zero, if_pos (by omega), ← hq]
  · rw [show (1 ||| 1 : Nat) = 1 from rfl, ← hq, if_neg (by omega)]
theorem bits_or_one (r : Nat) (h : r < 1073741824) : bits .or .i32 (r : Int) 1 = ((if r % 2 = 0 then r + 1 else r : Nat) : Int) := by
  rw [← or_one]
  have hl : r ||| 1 < 2147483648 := Nat.or_lt_two_pow (n := 31) (by omega) (by omega)
  have e1 : (BitVec.ofInt 32 (r : Int)).toNat = r := by simp; omega
  have e2 : (BitVec.ofInt 32 1).toNat = 1 := by decide
  show IntKind.i32.wrap (((BitVec.ofInt 32 (r : Int) ||| BitVec.ofInt 32 1 : BitVec 32).toNat : Nat) : Int) = _
  rw [BitVec.toNat_or, e1, e2]
  unfold IntKind.wrap
  simp [IntKind.bits, IntKind.signed]
  omega
theorem bits_and_one (r : Nat) (h : r < 1073741824) : bits .and .i32 (r : Int) 1 = ((r % 2 : Nat) : Int) := by
  have e1 : (BitVec.ofInt 32 (r : Int)).toNat = r := by simp; omega
  have e2 : (BitVec.ofInt 32 1).toNat = 1 := by decide
  show IntKind.i32.wrap (((BitVec.ofInt 32 (r : Int) &&& BitVec.ofInt 32 1 : BitVec 32).toNat : Nat) : Int) = _
  rw [BitVec.toNat_and, e1, e2, Nat.and_one_is_mod]
  unfold IntKind.wrap
  simp [IntKind.bits, IntKind.signed]
  omega
def Smalls (r : Nat) (w : World) : Prop :=
    Calls Tryd.prog 37 #[.int .i32 r] w fun e w' => e = .returned (.int .i32 (smallN r)) ∧ w = w'
theorem csmall_0 (r : Nat) (h : 0 ≤ r) (h' : r ≤ 64) (w : World) : Smalls r w := by
  have e : smallN r = r := by
    unfold smallN
    repeat (first | rw [if_pos (by omega)] | rw [if_neg (by omega)])
  unfold Smalls
  rw [e]; clear e
  have r0 : (0 : Int) ≤ (r : Int) := by omega
  have r1 : (r : Int) ≤ 1114111 := by omega
  have q0 : ((r : Int) == 215) = false := beq_eq_false_iff_ne.2 (by omega)
  have q1 : ((r : Int) == 930) = false := beq_eq_false_iff_ne.2 (by omega)
  have q2 : ((r : Int) == 962) = false := beq_eq_false_iff_ne.2 (by omega)
  have b0 : betw (r : Int) 65 90 = false := by unfold betw; exact decide_eq_false (by omega)
  have b1 : betw (r : Int) 192 222 = false := by unfold betw; exact decide_eq_false (by omega)
  have b2 : betw (r : Int) 913 937 = false := by unfold betw; exact decide_eq_false (by omega)
  have b3 : betw (r : Int) 1040 1071 = false := by unfold betw; exact decide_eq_false (by omega)
  have b4 : betw (r : Int) 1024 1039 = false := by unfold betw; exact decide_eq_false (by omega)
  have b5 : betw (r : Int) 256 311 = false := by unfold betw; exact decide_eq_false (by omega)
  have b6 : betw (r : Int) 330 375 = false := by unfold betw; exact decide_eq_false (by omega)
  have b7 : betw (r : Int) 7680 7829 = false := by unfold betw; exact decide_eq_false (by omega)
  have b8 : betw (r : Int) 313 328 = false := by unfold betw; exact decide_eq_false (by omega)
  have b9 : betw (r : Int) 377 382 = false := by unfold betw; exact decide_eq_false (by omega)
  clear h h'
  go_enter Tryd.func37, Tryd.ntmps37
  go_wp2_with (go_at_call 32; refine (cbetween_any _ _ _ _).mono ?_; rintro e w' ⟨rfl, rfl⟩)
  go_ret
  first | exact ⟨rfl, rfl⟩ | exact ⟨by simp, rfl⟩ | exact ⟨congrArg (fun x => Ending.returned (.int .i32 x)) (by omega), rfl⟩
theorem csmall_1 (r : Nat) (h : 65 ≤ r) (h' : r ≤ 90) (w : World) : Smalls r w := by
  have e : smallN r = r + 32 := by
    unfold smallN
    repeat (first | rw [if_pos (by omega)] | rw [if_neg (by omega)])
  unfold Smalls
  rw [e]; clear e
  have r0 : (0 : Int) ≤ (r : Int) := by omega
  have r1 : (r : Int) ≤ 1114111 := by omega
  have q0 : ((r : Int) == 215) = false := beq_eq_false_iff_ne.2 (by omega)
  have q1 : ((r : Int) == 930) = false := beq_eq_false_iff_ne.2 (by omega)
  have q2 : ((r : Int) == 962) = false := beq_eq_false_iff_ne.2 (by omega)
  have b0 : betw (r : Int) 65 90 = true := by unfold betw; exact decide_eq_true (by omega)
  have b1 : betw (r : Int) 192 222 = false := by unfold betw; exact decide_eq_false (by omega)
  have b2 : betw (r : Int) 913 937 = false := by unfold betw; exact decide_eq_false (by omega)
  have b3 : betw (r : Int) 1040 1071 = false := by unfold betw; exact decide_eq_false (by omega)
  have b4 : betw (r : Int) 1024 1039 = false := by unfold betw; exact decide_eq_false (by omega)
  have b5 : betw (r : Int) 256 311 = false := by unfold betw; exact decide_eq_false (by omega)
  have b6 : betw (r : Int) 330 375 = false := by unfold betw; exact decide_eq_false (by omega)
  have b7 : betw (r : Int) 7680 7829 = false := by unfold betw; exact decide_eq_false (by omega)
  have b8 : betw (r : Int) 313 328 = false := by unfold betw; exact decide_eq_false (by omega)
  have b9 : betw (r : Int) 377 382 = false := by unfold betw; exact decide_eq_false (by omega)
  clear h h'
  go_enter Tryd.func37, Tryd.ntmps37
  go_wp2_with (go_at_call 32; refine (cbetween_any _ _ _ _).mono ?_; rintro e w' ⟨rfl, rfl⟩)
  go_ret
  first | exact ⟨rfl, rfl⟩ | exact ⟨by simp, rfl⟩ | exact ⟨congrArg (fun x => Ending.returned (.int .i32 x)) (by omega), rfl⟩
theorem csmall_2 (r : Nat) (h : 91 ≤ r) (h' : r ≤ 191) (w : World) : Smalls r w := by
  have e : smallN r = r := by
    unfold smallN
    repeat (first | rw [if_pos (by omega)] | rw [if_neg (by omega)])
  unfold Smalls
  rw [e]; clear e
  have r0 : (0 : Int) ≤ (r : Int) := by omega
  have r1 : (r : Int) ≤ 1114111 := by omega
  have q0 : ((r : Int) == 215) = false := beq_eq_false_iff_ne.2 (by omega)
  have q1 : ((r : Int) == 930) = false := beq_eq_false_iff_ne.2 (by omega)
  have q2 : ((r : Int) == 962) = false := beq_eq_false_iff_ne.2 (by omega)
  have b0 : betw (r : Int) 65 90 = false := by unfold betw; exact decide_eq_false (by omega)
  have b1 : betw (r : Int) 192 222 = false := by unfold betw; exact decide_eq_false (by omega)
  have b2 : betw (r : Int) 913 937 = false := by unfold betw; exact decide_eq_false (by omega)
  have b3 : betw (r : Int) 1040 1071 = false := by unfold betw; exact decide_eq_false (by omega)
  have b4 : betw (r : Int) 1024 1039 = false := by unfold betw; exact decide_eq_false (by omega)
  have b5 : betw (r : Int) 256 311 = false := by unfold betw; exact decide_eq_false (by omega)
  have b6 : betw (r : Int) 330 375 = false := by unfold betw; exact decide_eq_false (by omega)
  have b7 : betw (r : Int) 7680 7829 = false := by unfold betw; exact decide_eq_false (by omega)
  have b8 : betw (r : Int) 313 328 = false := by unfold betw; exact decide_eq_false (by omega)
  have b9 : betw (r : Int) 377 382 = false := by unfold betw; exact decide_eq_false (by omega)
  clear h h'
  go_enter Tryd.func37, Tryd.ntmps37
  go_wp2_with (go_at_call 32; refine (cbetween_any _ _ _ _).mono ?_; rintro e w' ⟨rfl, rfl⟩)
  go_ret
  first | exact ⟨rfl, rfl⟩ | exact ⟨by simp, rfl⟩ | exact ⟨congrArg (fun x => Ending.returned (.int .i32 x)) (by omega), rfl⟩
theorem csmall_3 (r : Nat) (h : 192 ≤ r) (h' : r ≤ 214) (w : World) : Smalls r w := by
  have e : smallN r = r + 32 := by
    unfold smallN
    repeat (first | rw [if_pos (by omega)] | rw [if_neg (by omega)])
  unfold Smalls
  rw [e]; clear e
  have r0 : (0 : Int) ≤ (r : Int) := by omega
  have r1 : (r : Int) ≤ 1114111 := by omega
  have q0 : ((r : Int) == 215) = false := beq_eq_false_iff_ne.2 (by omega)
  have q1 : ((r : Int) == 930) = false := beq_eq_false_iff_ne.2 (by omega)
  have q2 : ((r : Int) == 962) = false := beq_eq_false_iff_ne.2 (by omega)
  have b0 : betw (r : Int) 65 90 = false := by unfold betw; exact decide_eq_false (by omega)
  have b1 : betw (r : Int) 192 222 = true := by unfold betw; exact decide_eq_true (by omega)
  have b2 : betw (r : Int) 913 937 = false := by unfold betw; exact decide_eq_false (by omega)
  have b3 : betw (r : Int) 1040 1071 = false := by unfold betw; exact decide_eq_false (by omega)
  have b4 : betw (r : Int) 1024 1039 = false := by unfold betw; exact decide_eq_false (by omega)
  have b5 : betw (r : Int) 256 311 = false := by unfold betw; exact decide_eq_false (by omega)
  have b6 : betw (r : Int) 330 375 = false := by unfold betw; exact decide_eq_false (by omega)
  have b7 : betw (r : Int) 7680 7829 = false := by unfold betw; exact decide_eq_false (by omega)
  have b8 : betw (r : Int) 313 328 = false := by unfold betw; exact decide_eq_false (by omega)
  have b9 : betw (r : Int) 377 382 = false := by unfold betw; exact decide_eq_false (by omega)
  clear h h'
  go_enter Tryd.func37, Tryd.ntmps37
  go_wp2_with (go_at_call 32; refine (cbetween_any _ _ _ _).mono ?_; rintro e w' ⟨rfl, rfl⟩)
  go_ret
  first | exact ⟨rfl, rfl⟩ | exact ⟨by simp, rfl⟩ | exact ⟨congrArg (fun x => Ending.returned (.int .i32 x)) (by omega), rfl⟩
theorem csmall_4 (r : Nat) (h : 215 ≤ r) (h' : r ≤ 215) (w : World) : Smalls r w := by
  have e : smallN r = r := by
    unfold smallN
    repeat (first | rw [if_pos (by omega)] | rw [if_neg (by omega)])
  unfold Smalls
  rw [e]; clear e
  obtain rfl : r = 215 := by omega
  have b0 : betw ((215 : Nat) : Int) 65 90 = false := by unfold betw; exact decide_eq_false (by omega)
  have b1 : betw ((215 : Nat) : Int) 192 222 = true := by unfold betw; exact decide_eq_true (by omega)
  have b2 : betw ((215 : Nat) : Int) 913 937 = false := by unfold betw; exact decide_eq_false (by omega)
  have b3 : betw ((215 : Nat) : Int) 1040 1071 = false := by unfold betw; exact decide_eq_false (by omega)
  have b4 : betw ((215 : Nat) : Int) 1024 1039 = false := by unfold betw; exact decide_eq_false (by omega)
  have b5 : betw ((215 : Nat) : Int) 256 311 = false := by unfold betw; exact decide_eq_false (by omega)
  have b6 : betw ((215 : Nat) : Int) 330 375 = false := by unfold betw; exact decide_eq_false (by omega)
  have b7 : betw ((215 : Nat) : Int) 7680 7829 = false := by unfold betw; exact decide_eq_false (by omega)
  have b8 : betw ((215 : Nat) : Int) 313 328 = false := by unfold betw; exact decide_eq_false (by omega)
  have b9 : betw ((215 : Nat) : Int) 377 382 = false := by unfold betw; exact decide_eq_false (by omega)
  clear h h'
  go_enter Tryd.func37, Tryd.ntmps37
  go_wp2_with (go_at_call 32; refine (cbetween_any _ _ _ _).mono ?_; rintro e w' ⟨rfl, rfl⟩)
  go_ret
  first | exact ⟨rfl, rfl⟩ | exact ⟨by simp, rfl⟩ | exact ⟨congrArg (fun x => Ending.returned (.int .i32 x)) (by omega), rfl⟩
theorem csmall_5 (r : Nat) (h : 216 ≤ r) (h' : r ≤ 222) (w : World) : Smalls r w := by
  have e : smallN r = r + 32 := by
    unfold smallN
    repeat (first | rw [if_pos (by omega)] | rw [if_neg (by omega)])
  unfold Smalls
  rw [e]; clear e
  have r0 : (0 : Int) ≤ (r : Int) := by omega
  have r1 : (r : Int) ≤ 1114111 := by omega
  have q0 : ((r : Int) == 215) = false := beq_eq_false_iff_ne.2 (by omega)
  have q1 : ((r : Int) == 930) = false := beq_eq_false_iff_ne.2 (by omega)
  have q2 : ((r : Int) == 962) = false := beq_eq_false_iff_ne.2 (by omega)
  have b0 : betw (r : Int) 65 90 = false := by unfold betw; exact decide_eq_false (by omega)
  have b1 : betw (r : Int) 192 222 = true := by unfold betw; exact decide_eq_true (by omega)
  have b2 : betw (r : Int) 913 937 = false := by unfold betw; exact decide_eq_false (by omega)
  have b3 : betw (r : Int) 1040 1071 = false := by unfold betw; exact decide_eq_false (by omega)
  have b4 : betw (r : Int) 1024 1039 = false := by unfold betw; exact decide_eq_false (by omega)
  have b5 : betw (r : Int) 256 311 = false := by unfold betw; exact decide_eq_false (by omega)
  have b6 : betw (r : Int) 330 375 = false := by unfold betw; exact decide_eq_false (by omega)
  have b7 : betw (r : Int) 7680 7829 = false := by unfold betw; exact decide_eq_false (by omega)
  have b8 : betw (r : Int) 313 328 = false := by unfold betw; exact decide_eq_false (by omega)
  have b9 : betw (r : Int) 377 382 = false := by unfold betw; exact decide_eq_false (by omega)
  clear h h'
  go_enter Tryd.func37, Tryd.ntmps37
  go_wp2_with (go_at_call 32; refine (cbetween_any _ _ _ _).mono ?_; rintro e w' ⟨rfl, rfl⟩)
  go_ret
  first | exact ⟨rfl, rfl⟩ | exact ⟨by simp, rfl⟩ | exact ⟨congrArg (fun x => Ending.returned (.int .i32 x)) (by omega), rfl⟩
theorem csmall_6 (r : Nat) (h : 223 ≤ r) (h' : r ≤ 255) (w : World) : Smalls r w := by
  have e : smallN r = r := by
    unfold smallN
    repeat (first | rw [if_pos (by omega)] | rw [if_neg (by omega)])
  unfold Smalls
  rw [e]; clear e
  have r0 : (0 : Int) ≤ (r : Int) := by omega
  have r1 : (r : Int) ≤ 1114111 := by omega
  have q0 : ((r : Int) == 215) = false := beq_eq_false_iff_ne.2 (by omega)
  have q1 : ((r : Int) == 930) = false := beq_eq_false_iff_ne.2 (by omega)
  have q2 : ((r : Int) == 962) = false := beq_eq_false_iff_ne.2 (by omega)
  have b0 : betw (r : Int) 65 90 = false := by unfold betw; exact decide_eq_false (by omega)
  have b1 : betw (r : Int) 192 222 = false := by unfold betw; exact decide_eq_false (by omega)
  have b2 : betw (r : Int) 913 937 = false := by unfold betw; exact decide_eq_false (by omega)
  have b3 : betw (r : Int) 1040 1071 = false := by unfold betw; exact decide_eq_false (by omega)
  have b4 : betw (r : Int) 1024 1039 = false := by unfold betw; exact decide_eq_false (by omega)
  have b5 : betw (r : Int) 256 311 = false := by unfold betw; exact decide_eq_false (by omega)
  have b6 : betw (r : Int) 330 375 = false := by unfold betw; exact decide_eq_false (by omega)
  have b7 : betw (r : Int) 7680 7829 = false := by unfold betw; exact decide_eq_false (by omega)
  have b8 : betw (r : Int) 313 328 = false := by unfold betw; exact decide_eq_false (by omega)
  have b9 : betw (r : Int) 377 382 = false := by unfold betw; exact decide_eq_false (by omega)
  clear h h'
  go_enter Tryd.func37, Tryd.ntmps37
  go_wp2_with (go_at_call 32; refine (cbetween_any _ _ _ _).mono ?_; rintro e w' ⟨rfl, rfl⟩)
  go_ret
  first | exact ⟨rfl, rfl⟩ | exact ⟨by simp, rfl⟩ | exact ⟨congrArg (fun x => Ending.returned (.int .i32 x)) (by omega), rfl⟩
theorem csmall_7 (r : Nat) (h : 256 ≤ r) (h' : r ≤ 311) (hp : r % 2 = 0) (w : World) : Smalls r w := by
  have e : smallN r = r + 1 := by
    unfold smallN
    repeat (first | rw [if_pos (by omega)] | rw [if_neg (by omega)])
  unfold Smalls
  rw [e]; clear e
  have r0 : (0 : Int) ≤ (r : Int) := by omega
  have r1 : (r : Int) ≤ 1114111 := by omega
  have q0 : ((r : Int) == 215) = false := beq_eq_false_iff_ne.2 (by omega)
  have q1 : ((r : Int) == 930) = false := beq_eq_false_iff_ne.2 (by omega)
  have q2 : ((r : Int) == 962) = false := beq_eq_false_iff_ne.2 (by omega)
  have b0 : betw (r : Int) 65 90 = false := by unfold betw; exact decide_eq_false (by omega)
  have b1 : betw (r : Int) 192 222 = false := by unfold betw; exact decide_eq_false (by omega)
  have b2 : betw (r : Int) 913 937 = false := by unfold betw; exact decide_eq_false (by omega)
  have b3 : betw (r : Int) 1040 1071 = false := by unfold betw; exact decide_eq_false (by omega)
  have b4 : betw (r : Int) 1024 1039 = false := by unfold betw; exact decide_eq_false (by omega)
  have b5 : betw (r : Int) 256 311 = true := by unfold betw; exact decide_eq_true (by omega)
  have b6 : betw (r : Int) 330 375 = false := by unfold betw; exact decide_eq_false (by omega)
  have b7 : betw (r : Int) 7680 7829 = false := by unfold betw; exact decide_eq_false (by omega)
  have b8 : betw (r : Int) 313 328 = false := by unfold betw; exact decide_eq_false (by omega)
  have b9 : betw (r : Int) 377 382 = false := by unfold betw; exact decide_eq_false (by omega)
  have o1 : bits .or .i32 (r : Int) 1 = (r : Int) + 1 := by rw [bits_or_one r (by omega)]; split <;> omega
  clear h h' hp
  go_enter Tryd.func37, Tryd.ntmps37
  go_wp2_with (go_at_call 32; refine (cbetween_any _ _ _ _).mono ?_; rintro e w' ⟨rfl, rfl⟩)
  go_ret
  first | exact ⟨rfl, rfl⟩ | exact ⟨by simp, rfl⟩ | exact ⟨congrArg (fun x => Ending.returned (.int .i32 x)) (by omega), rfl⟩
theorem csmall_8 (r : Nat) (h : 256 ≤ r) (h' : r ≤ 311) (hp : r % 2 = 1) (w : World) : Smalls r w := by
  have e : smallN r = r := by
    unfold smallN
    repeat (first | rw [if_pos (by omega)] | rw [if_neg (by omega)])
  unfold Smalls
  rw [e]; clear e
  have r0 : (0 : Int) ≤ (r : Int) := by omega
  have r1 : (r : Int) ≤ 1114111 := by omega
  have q0 : ((r : Int) == 215) = false := beq_eq_false_iff_ne.2 (by omega)
  have q1 : ((r : Int) == 930) = false := beq_eq_false_iff_ne.2 (by omega)
  have q2 : ((r : Int) == 962) = false := beq_eq_false_iff_ne.2 (by omega)
  have b0 : betw (r : Int) 65 90 = false := by unfold betw; exact decide_eq_false (by omega)
  have b1 : betw (r : Int) 192 222 = false := by unfold betw; exact decide_eq_false (by omega)
  have b2 : betw (r : Int) 913 937 = false := by unfold betw; exact decide_eq_false (by omega)
  have b3 : betw (r : Int) 1040 1071 = false := by unfold betw; exact decide_eq_false (by omega)
  have b4 : betw (r : Int) 1024 1039 = false := by unfold betw; exact decide_eq_false (by omega)
  have b5 : betw (r : Int) 256 311 = true := by unfold betw; exact decide_eq_true (by omega)
  have b6 : betw (r : Int) 330 375 = false := by unfold betw; exact decide_eq_false (by omega)
  have b7 : betw (r : Int) 7680 7829 = false := by unfold betw; exact decide_eq_false (by omega)
  have b8 : betw (r : Int) 313 328 = false := by unfold betw; exact decide_eq_false (by omega)
  have b9 : betw (r : Int) 377 382 = false := by unfold betw; exact decide_eq_false (by omega)
  have o1 : bits .or .i32 (r : Int) 1 = (r : Int) := by rw [bits_or_one r (by omega)]; split <;> omega
  clear h h' hp
  go_enter Tryd.func37, Tryd.ntmps37
  go_wp2_with (go_at_call 32; refine (cbetween_any _ _ _ _).mono ?_; rintro e w' ⟨rfl, rfl⟩)
  go_ret
  first | exact ⟨rfl, rfl⟩ | exact ⟨by simp, rfl⟩ | exact ⟨congrArg (fun x => Ending.returned (.int .i32 x)) (by omega), rfl⟩
theorem csmall_9 (r : Nat) (h : 312 ≤ r) (h' : r ≤ 312) (w : World) : Smalls r w := by
  have e : smallN r = r := by
    unfold smallN
    repeat (first | rw [if_pos (by omega)] | rw [if_neg (by omega)])
  unfold Smalls
  rw [e]; clear e
  obtain rfl : r = 312 := by omega
  have b0 : betw ((312 : Nat) : Int) 65 90 = false := by unfold betw; exact decide_eq_false (by omega)
  have b1 : betw ((312 : Nat) : Int) 192 222 = false := by unfold betw; exact decide_eq_false (by omega)
  have b2 : betw ((312 : Nat) : Int) 913 937 = false := by unfold betw; exact decide_eq_false (by omega)
  have b3 : betw ((312 : Nat) : Int) 1040 1071 = false := by unfold betw; exact decide_eq_false (by omega)
  have b4 : betw ((312 : Nat) : Int) 1024 1039 = false := by unfold betw; exact decide_eq_false (by omega)
  have b5 : betw ((312 : Nat) : Int) 256 311 = false := by unfold betw; exact decide_eq_false (by omega)
  have b6 : betw ((312 : Nat) : Int) 330 375 = false := by unfold betw; exact decide_eq_false (by omega)
  have b7 : betw ((312 : Nat) : Int) 7680 7829 = false := by unfold betw; exact decide_eq_false (by omega)
  have b8 : betw ((312 : Nat) : Int) 313 328 = false := by unfold betw; exact decide_eq_false (by omega)
  have b9 : betw ((312 : Nat) : Int) 377 382 = false := by unfold betw; exact decide_eq_false (by omega)
  clear h h'
  go_enter Tryd.func37, Tryd.ntmps37
  go_wp2_with (go_at_call 32; refine (cbetween_any _ _ _ _).mono ?_; rintro e w' ⟨rfl, rfl⟩)
  go_ret
  first | exact ⟨rfl, rfl⟩ | exact ⟨by simp, rfl⟩ | exact ⟨congrArg (fun x => Ending.returned (.int .i32 x)) (by omega), rfl⟩
theorem csmall_10 (r : Nat) (h : 313 ≤ r) (h' : r ≤ 328) (hp : r % 2 = 0) (w : World) : Smalls r w := by
  have e : smallN r = r := by
    unfold smallN
    repeat (first | rw [if_pos (by omega)] | rw [if_neg (by omega)])
  unfold Smalls
  rw [e]; clear e
  have r0 : (0 : Int) ≤ (r : Int) := by omega
  have r1 : (r : Int) ≤ 1114111 := by omega
  have q0 : ((r : Int) == 215) = false := beq_eq_false_iff_ne.2 (by omega)
  have q1 : ((r : Int) == 930) = false := beq_eq_false_iff_ne.2 (by omega)
  have q2 : ((r : Int) == 962) = false := beq_eq_false_iff_ne.2 (by omega)
  have b0 : betw (r : Int) 65 90 = false := by unfold betw; exact decide_eq_false (by omega)
  have b1 : betw (r : Int) 192 222 = false := by unfold betw; exact decide_eq_false (by omega)
  have b2 : betw (r : Int) 913 937 = false := by unfold betw; exact decide_eq_false (by omega)
  have b3 : betw (r : Int) 1040 1071 = false := by unfold betw; exact decide_eq_false (by omega)
  have b4 : betw (r : Int) 1024 1039 = false := by unfold betw; exact decide_eq_false (by omega)
  have b5 : betw (r : Int) 256 311 = false := by unfold betw; exact decide_eq_false (by omega)
  have b6 : betw (r : Int) 330 375 = false := by unfold betw; exact decide_eq_false (by omega)
  have b7 : betw (r : Int) 7680 7829 = false := by unfold betw; exact decide_eq_false (by omega)
  have b8 : betw (r : Int) 313 328 = true := by unfold betw; exact decide_eq_true (by omega)
  have b9 : betw (r : Int) 377 382 = false := by unfold betw; exact decide_eq_false (by omega)
  have o1 : bits .and .i32 (r : Int) 1 = 0 := by rw [bits_and_one r (by omega)]; omega
  clear h h' hp
  go_enter Tryd.func37, Tryd.ntmps37
  go_wp2_with (go_at_call 32; refine (cbetween_any _ _ _ _).mono ?_; rintro e w' ⟨rfl, rfl⟩)
  go_ret
  first | exact ⟨rfl, rfl⟩ | exact ⟨by simp, rfl⟩ | exact ⟨congrArg (fun x => Ending.returned (.int .i32 x)) (by omega), rfl⟩
theorem csmall_11 (r : Nat) (h : 313 ≤ r) (h' : r ≤ 328) (hp : r % 2 = 1) (w : World) : Smalls r w := by
  have e : smallN r = r + 1 := by
    unfold smallN
    repeat (first | rw [if_pos (by omega)] | rw [if_neg (by omega)])
  unfold Smalls
  rw [e]; clear e
  have r0 : (0 : Int) ≤ (r : Int) := by omega
  have r1 : (r : Int) ≤ 1114111 := by omega
  have q0 : ((r : Int) == 215) = false := beq_eq_false_iff_ne.2 (by omega)
  have q1 : ((r : Int) == 930) = false := beq_eq_false_iff_ne.2 (by omega)
  have q2 : ((r : Int) == 962) = false := beq_eq_false_iff_ne.2 (by omega)
  have b0 : betw (r : Int) 65 90 = false := by unfold betw; exact decide_eq_false (by omega)
  have b1 : betw (r : Int) 192 222 = false := by unfold betw; exact decide_eq_false (by omega)
  have b2 : betw (r : Int) 913 937 = false := by unfold betw; exact decide_eq_false (by omega)
  have b3 : betw (r : Int) 1040 1071 = false := by unfold betw; exact decide_eq_false (by omega)
  have b4 : betw (r : Int) 1024 1039 = false := by unfold betw; exact decide_eq_false (by omega)
  have b5 : betw (r : Int) 256 311 = false := by unfold betw; exact decide_eq_false (by omega)
  have b6 : betw (r : Int) 330 375 = false := by unfold betw; exact decide_eq_false (by omega)
  have b7 : betw (r : Int) 7680 7829 = false := by unfold betw; exact decide_eq_false (by omega)
  have b8 : betw (r : Int) 313 328 = true := by unfold betw; exact decide_eq_true (by omega)
  have b9 : betw (r : Int) 377 382 = false := by unfold betw; exact decide_eq_false (by omega)
  have o1 : bits .and .i32 (r : Int) 1 = 1 := by rw [bits_and_one r (by omega)]; omega
  clear h h' hp
  go_enter Tryd.func37, Tryd.ntmps37
  go_wp2_with (go_at_call 32; refine (cbetween_any _ _ _ _).mono ?_; rintro e w' ⟨rfl, rfl⟩)
  go_ret
  first | exact ⟨rfl, rfl⟩ | exact ⟨by simp, rfl⟩ | exact ⟨congrArg (fun x => Ending.returned (.int .i32 x)) (by omega), rfl⟩
theorem csmall_12 (r : Nat) (h : 329 ≤ r) (h' : r ≤ 329) (w : World) : Smalls r w := by
  have e : smallN r = r := by
    unfold smallN
    repeat (first | rw [if_pos (by omega)] | rw [if_neg (by omega)])
  unfold Smalls
  rw [e]; clear e
  obtain rfl : r = 329 := by omega
  have b0 : betw ((329 : Nat) : Int) 65 90 = false := by unfold betw; exact decide_eq_false (by omega)
  have b1 : betw ((329 : Nat) : Int) 192 222 = false := by unfold betw; exact decide_eq_false (by omega)
  have b2 : betw ((329 : Nat) : Int) 913 937 = false := by unfold betw; exact decide_eq_false (by omega)
  have b3 : betw ((329 : Nat) : Int) 1040 1071 = false := by unfold betw; exact decide_eq_false (by omega)
  have b4 : betw ((329 : Nat) : Int) 1024 1039 = false := by unfold betw; exact decide_eq_false (by omega)
  have b5 : betw ((329 : Nat) : Int) 256 311 = false := by unfold betw; exact decide_eq_false (by omega)
  have b6 : betw ((329 : Nat) : Int) 330 375 = false := by unfold betw; exact decide_eq_false (by omega)
  have b7 : betw ((329 : Nat) : Int) 7680 7829 = false := by unfold betw; exact decide_eq_false (by omega)
  have b8 : betw ((329 : Nat) : Int) 313 328 = false := by unfold betw; exact decide_eq_false (by omega)
  have b9 : betw ((329 : Nat) : Int) 377 382 = false := by unfold betw; exact decide_eq_false (by omega)
  clear h h'
  go_enter Tryd.func37, Tryd.ntmps37
  go_wp2_with (go_at_call 32; refine (cbetween_any _ _ _ _).mono ?_; rintro e w' ⟨rfl, rfl⟩)
  go_ret
  first | exact ⟨rfl, rfl⟩ | exact ⟨by simp, rfl⟩ | exact ⟨congrArg (fun x => Ending.returned (.int .i32 x)) (by omega), rfl⟩
theorem csmall_13 (r : Nat) (h : 330 ≤ r) (h' : r ≤ 375) (hp : r % 2 = 0) (w : World) : Smalls r w := by
  have e : smallN r = r + 1 := by
    unfold smallN
    repeat (first | rw [if_pos (by omega)] | rw [if_neg (by omega)])
  unfold Smalls
  rw [e]; clear e
  have r0 : (0 : Int) ≤ (r : Int) := by omega
  have r1 : (r : Int) ≤ 1114111 := by omega
  have q0 : ((r : Int) == 215) = false := beq_eq_false_iff_ne.2 (by omega)
  have q1 : ((r : Int) == 930) = false := beq_eq_false_iff_ne.2 (by omega)
  have q2 : ((r : Int) == 962) = false := beq_eq_false_iff_ne.2 (by omega)
  have b0 : betw (r : Int) 65 90 = false := by unfold betw; exact decide_eq_false (by omega)
  have b1 : betw (r : Int) 192 222 = false := by unfold betw; exact decide_eq_false (by omega)
  have b2 : betw (r : Int) 913 937 = false := by unfold betw; exact decide_eq_false (by omega)
  have b3 : betw (r : Int) 1040 1071 = false := by unfold betw; exact decide_eq_false (by omega)
  have b4 : betw (r : Int) 1024 1039 = false := by unfold betw; exact decide_eq_false (by omega)
  have b5 : betw (r : Int) 256 311 = false := by unfold betw; exact decide_eq_false (by omega)
  have b6 : betw (r : Int) 330 375 = true := by unfold betw; exact decide_eq_true (by omega)
  have b7 : betw (r : Int) 7680 7829 = false := by unfold betw; exact decide_eq_false (by omega)
  have b8 : betw (r : Int) 313 328 = false := by unfold betw; exact decide_eq_false (by omega)
  have b9 : betw (r : Int) 377 382 = false := by unfold betw; exact decide_eq_false (by omega)
  have o1 : bits .or .i32 (r : Int) 1 = (r : Int) + 1 := by rw [bits_or_one r (by omega)]; split <;> omega
  clear h h' hp
  go_enter Tryd.func37, Tryd.ntmps37
  go_wp2_with (go_at_call 32; refine (cbetween_any _ _ _ _).mono ?_; rintro e w' ⟨rfl, rfl⟩)
  go_ret
  first | exact ⟨rfl, rfl⟩ | exact ⟨by simp, rfl⟩ | exact ⟨congrArg (fun x => Ending.returned (.int .i32 x)) (by omega), rfl⟩
theorem csmall_14 (r : Nat) (h : 330 ≤ r) (h' : r ≤ 375) (hp : r % 2 = 1) (w : World) : Smalls r w := by
  have e : smallN r = r := by
    unfold smallN
    repeat (first | rw [if_pos (by omega)] | rw [if_neg (by omega)])
  unfold Smalls
  rw [e]; clear e
  have r0 : (0 : Int) ≤ (r : Int) := by omega
  have r1 : (r : Int) ≤ 1114111 := by omega
  have q0 : ((r : Int) == 215) = false := beq_eq_false_iff_ne.2 (by omega)
  have q1 : ((r : Int) == 930) = false := beq_eq_false_iff_ne.2 (by omega)
  have q2 : ((r : Int) == 962) = false := beq_eq_false_iff_ne.2 (by omega)
  have b0 : betw (r : Int) 65 90 = false := by unfold betw; exact decide_eq_false (by omega)
  have b1 : betw (r : Int) 192 222 = false := by unfold betw; exact decide_eq_false (by omega)
  have b2 : betw (r : Int) 913 937 = false := by unfold betw; exact decide_eq_false (by omega)
  have b3 : betw (r : Int) 1040 1071 = false := by unfold betw; exact decide_eq_false (by omega)
  have b4 : betw (r : Int) 1024 1039 = false := by unfold betw; exact decide_eq_false (by omega)
  have b5 : betw (r : Int) 256 311 = false := by unfold betw; exact decide_eq_false (by omega)
  have b6 : betw (r : Int) 330 375 = true := by unfold betw; exact decide_eq_true (by omega)
  have b7 : betw (r : Int) 7680 7829 = false := by unfold betw; exact decide_eq_false (by omega)
  have b8 : betw (r : Int) 313 328 = false := by unfold betw; exact decide_eq_false (by omega)
  have b9 : betw (r : Int) 377 382 = false := by unfold betw; exact decide_eq_false (by omega)
  have o1 : bits .or .i32 (r : Int) 1 = (r : Int) := by rw [bits_or_one r (by omega)]; split <;> omega
  clear h h' hp
  go_enter Tryd.func37, Tryd.ntmps37
  go_wp2_with (go_at_call 32; refine (cbetween_any _ _ _ _).mono ?_; rintro e w' ⟨rfl, rfl⟩)
  go_ret
  first | exact ⟨rfl, rfl⟩ | exact ⟨by simp, rfl⟩ | exact ⟨congrArg (fun x => Ending.returned (.int .i32 x)) (by omega), rfl⟩
theorem csmall_15 (r : Nat) (h : 376 ≤ r) (h' : r ≤ 376) (w : World) : Smalls r w := by
  have e : smallN r = r := by
    unfold smallN
    repeat (first | rw [if_pos (by omega)] | rw [if_neg (by omega)])
  unfold Smalls
  rw [e]; clear e
  obtain rfl : r = 376 := by omega
  have b0 : betw ((376 : Nat) : Int) 65 90 = false := by unfold betw; exact decide_eq_false (by omega)
  have b1 : betw ((376 : Nat) : Int) 192 222 = false := by unfold betw; exact decide_eq_false (by omega)
  have b2 : betw ((376 : Nat) : Int) 913 937 = false := by unfold betw; exact decide_eq_false (by omega)
  have b3 : betw ((376 : Nat) : Int) 1040 1071 = false := by unfold betw; exact decide_eq_false (by omega)
  have b4 : betw ((376 : Nat) : Int) 1024 1039 = false := by unfold betw; exact decide_eq_false (by omega)
  have b5 : betw ((376 : Nat) : Int) 256 311 = false := by unfold betw; exact decide_eq_false (by omega)
  have b6 : betw ((376 : Nat) : Int) 330 375 = false := by unfold betw; exact decide_eq_false (by omega)
  have b7 : betw ((376 : Nat) : Int) 7680 7829 = false := by unfold betw; exact decide_eq_false (by omega)
  have b8 : betw ((376 : Nat) : Int) 313 328 = false := by unfold betw; exact decide_eq_false (by omega)
  have b9 : betw ((376 : Nat) : Int) 377 382 = false := by unfold betw; exact decide_eq_false (by omega)
  clear h h'
  go_enter Tryd.func37, Tryd.ntmps37
  go_wp2_with (go_at_call 32; refine (cbetween_any _ _ _ _).mono ?_; rintro e w' ⟨rfl, rfl⟩)
  go_ret
  first | exact ⟨rfl, rfl⟩ | exact ⟨by simp, rfl⟩ | exact ⟨congrArg (fun x => Ending.returned (.int .i32 x)) (by omega), rfl⟩
theorem csmall_16 (r : Nat) (h : 377 ≤ r) (h' : r ≤ 382) (hp : r % 2 = 0) (w : World) : Smalls r w := by
  have e : smallN r = r := by
    unfold smallN
    repeat (first | rw [if_pos (by omega)] | rw [if_neg (by omega)])
  unfold Smalls
  rw [e]; clear e
  have r0 : (0 : Int) ≤ (r : Int) := by omega
  have r1 : (r : Int) ≤ 1114111 := by omega
  have q0 : ((r : Int) == 215) = false := beq_eq_false_iff_ne.2 (by omega)
  have q1 : ((r : Int) == 930) = false := beq_eq_false_iff_ne.2 (by omega)
  have q2 : ((r : Int) == 962) = false := beq_eq_false_iff_ne.2 (by omega)
  have b0 : betw (r : Int) 65 90 = false := by unfold betw; exact decide_eq_false (by omega)
  have b1 : betw (r : Int) 192 222 = false := by unfold betw; exact decide_eq_false (by omega)
  have b2 : betw (r : Int) 913 937 = false := by unfold betw; exact decide_eq_false (by omega)
  have b3 : betw (r : Int) 1040 1071 = false := by unfold betw; exact decide_eq_false (by omega)
  have b4 : betw (r : Int) 1024 1039 = false := by unfold betw; exact decide_eq_false (by omega)
  have b5 : betw (r : Int) 256 311 = false := by unfold betw; exact decide_eq_false (by omega)
  have b6 : betw (r : Int) 330 375 = false := by unfold betw; exact decide_eq_false (by omega)
  have b7 : betw (r : Int) 7680 7829 = false := by unfold betw; exact decide_eq_false (by omega)
  have b8 : betw (r : Int) 313 328 = false := by unfold betw; exact decide_eq_false (by omega)
  have b9 : betw (r : Int) 377 382 = true := by unfold betw; exact decide_eq_true (by omega)
  have o1 : bits .and .i32 (r : Int) 1 = 0 := by rw [bits_and_one r (by omega)]; omega
  clear h h' hp
  go_enter Tryd.func37, Tryd.ntmps37
  go_wp2_with (go_at_call 32; refine (cbetween_any _ _ _ _).mono ?_; rintro e w' ⟨rfl, rfl⟩)
  go_ret
  first | exact ⟨rfl, rfl⟩ | exact ⟨by simp, rfl⟩ | exact ⟨congrArg (fun x => Ending.returned (.int .i32 x)) (by omega), rfl⟩
theorem csmall_17 (r : Nat) (h : 377 ≤ r) (h' : r ≤ 382) (hp : r % 2 = 1) (w : World) : Smalls r w := by
  have e : smallN r = r + 1 := by
    unfold smallN
    repeat (first | rw [if_pos (by omega)] | rw [if_neg (by omega)])
  unfold Smalls
  rw [e]; clear e
  have r0 : (0 : Int) ≤ (r : Int) := by omega
  have r1 : (r : Int) ≤ 1114111 := by omega
  have q0 : ((r : Int) == 215) = false := beq_eq_false_iff_ne.2 (by omega)
  have q1 : ((r : Int) == 930) = false := beq_eq_false_iff_ne.2 (by omega)
  have q2 : ((r : Int) == 962) = false := beq_eq_false_iff_ne.2 (by omega)
  have b0 : betw (r : Int) 65 90 = false := by unfold betw; exact decide_eq_false (by omega)
  have b1 : betw (r : Int) 192 222 = false := by unfold betw; exact decide_eq_false (by omega)
  have b2 : betw (r : Int) 913 937 = false := by unfold betw; exact decide_eq_false (by omega)
  have b3 : betw (r : Int) 1040 1071 = false := by unfold betw; exact decide_eq_false (by omega)
  have b4 : betw (r : Int) 1024 1039 = false := by unfold betw; exact decide_eq_false (by omega)
  have b5 : betw (r : Int) 256 311 = false := by unfold betw; exact decide_eq_false (by omega)
  have b6 : betw (r : Int) 330 375 = false := by unfold betw; exact decide_eq_false (by omega)
  have b7 : betw (r : Int) 7680 7829 = false := by unfold betw; exact decide_eq_false (by omega)
  have b8 : betw (r : Int) 313 328 = false := by unfold betw; exact decide_eq_false (by omega)
  have b9 : betw (r : Int) 377 382 = true := by unfold betw; exact decide_eq_true (by omega)
  have o1 : bits .and .i32 (r : Int) 1 = 1 := by rw [bits_and_one r (by omega)]; omega
  clear h h' hp
  go_enter Tryd.func37, Tryd.ntmps37
  go_wp2_with (go_at_call 32; refine (cbetween_any _ _ _ _).mono ?_; rintro e w' ⟨rfl, rfl⟩)
  go_ret
  first | exact ⟨rfl, rfl⟩ | exact ⟨by simp, rfl⟩ | exact ⟨congrArg (fun x => Ending.returned (.int .i32 x)) (by omega), rfl⟩
theorem csmall_18 (r : Nat) (h : 383 ≤ r) (h' : r ≤ 912) (w : World) : Smalls r w := by
  have e : smallN r = r := by
    unfold smallN
    repeat (first | rw [if_pos (by omega)] | rw [if_neg (by omega)])
  unfold Smalls
  rw [e]; clear e
  have r0 : (0 : Int) ≤ (r : Int) := by omega
  have r1 : (r : Int) ≤ 1114111 := by omega
  have q0 : ((r : Int) == 215) = false := beq_eq_false_iff_ne.2 (by omega)
  have q1 : ((r : Int) == 930) = false := beq_eq_false_iff_ne.2 (by omega)
  have q2 : ((r : Int) == 962) = false := beq_eq_false_iff_ne.2 (by omega)
  have b0 : betw (r : Int) 65 90 = false := by unfold betw; exact decide_eq_false (by omega)
  have b1 : betw (r : Int) 192 222 = false := by unfold betw; exact decide_eq_false (by omega)
  have b2 : betw (r : Int) 913 937 = false := by unfold betw; exact decide_eq_false (by omega)
  have b3 : betw (r : Int) 1040 1071 = false := by unfold betw; exact decide_eq_false (by omega)
  have b4 : betw (r : Int) 1024 1039 = false := by unfold betw; exact decide_eq_false (by omega)
  have b5 : betw (r : Int) 256 311 = false := by unfold betw; exact decide_eq_false (by omega)
  have b6 : betw (r : Int) 330 375 = false := by unfold betw; exact decide_eq_false (by omega)
  have b7 : betw (r : Int) 7680 7829 = false := by unfold betw; exact decide_eq_false (by omega)
  have b8 : betw (r : Int) 313 328 = false := by unfold betw; exact decide_eq_false (by omega)
  have b9 : betw (r : Int) 377 382 = false := by unfold betw; exact decide_eq_false (by omega)
  clear h h'
  go_enter Tryd.func37, Tryd.ntmps37
  go_wp2_with (go_at_call 32; refine (cbetween_any _ _ _ _).mono ?_; rintro e w' ⟨rfl, rfl⟩)
  go_ret
  first | exact ⟨rfl, rfl⟩ | exact ⟨by simp, rfl⟩ | exact ⟨congrArg (fun x => Ending.returned (.int .i32 x)) (by omega), rfl⟩
theorem csmall_19 (r : Nat) (h : 913 ≤ r) (h' : r ≤ 929) (w : World) : Smalls r w := by
  have e : smallN r = r + 32 := by
    unfold smallN
    repeat (first | rw [if_pos (by omega)] | rw [if_neg (by omega)])
  unfold Smalls
  rw [e]; clear e
  have r0 : (0 : Int) ≤ (r : Int) := by omega
  have r1 : (r : Int) ≤ 1114111 := by omega
  have q0 : ((r : Int) == 215) = false := beq_eq_false_iff_ne.2 (by omega)
  have q1 : ((r : Int) == 930) = false := beq_eq_false_iff_ne.2 (by omega)
  have q2 : ((r : Int) == 962) = false := beq_eq_false_iff_ne.2 (by omega)
  have b0 : betw (r : Int) 65 90 = false := by unfold betw; exact decide_eq_false (by omega)
  have b1 : betw (r : Int) 192 222 = false := by unfold betw; exact decide_eq_false (by omega)
  have b2 : betw (r : Int) 913 937 = true := by unfold betw; exact decide_eq_true (by omega)
  have b3 : betw (r : Int) 1040 1071 = false := by unfold betw; exact decide_eq_false (by omega)
  have b4 : betw (r : Int) 1024 1039 = false := by unfold betw; exact decide_eq_false (by omega)
  have b5 : betw (r : Int) 256 311 = false := by unfold betw; exact decide_eq_false (by omega)
  have b6 : betw (r : Int) 330 375 = false := by unfold betw; exact decide_eq_false (by omega)
  have b7 : betw (r : Int) 7680 7829 = false := by unfold betw; exact decide_eq_false (by omega)
  have b8 : betw (r : Int) 313 328 = false := by unfold betw; exact decide_eq_false (by omega)
  have b9 : betw (r : Int) 377 382 = false := by unfold betw; exact decide_eq_false (by omega)
  clear h h'
  go_enter Tryd.func37, Tryd.ntmps37
  go_wp2_with (go_at_call 32; refine (cbetween_any _ _ _ _).mono ?_; rintro e w' ⟨rfl, rfl⟩)
  go_ret
  first | exact ⟨rfl, rfl⟩ | exact ⟨by simp, rfl⟩ | exact ⟨congrArg (fun x => Ending.returned (.int .i32 x)) (by omega), rfl⟩
theorem csmall_20 (r : Nat) (h : 930 ≤ r) (h' : r ≤ 930) (w : World) : Smalls r w := by
  have e : smallN r = r := by
    unfold smallN
    repeat (first | rw [if_pos (by omega)] | rw [if_neg (by omega)])
  unfold Smalls
  rw [e]; clear e
  obtain rfl : r = 930 := by omega
  have b0 : betw ((930 : Nat) : Int) 65 90 = false := by unfold betw; exact decide_eq_false (by omega)
  have b1 : betw ((930 : Nat) : Int) 192 222 = false := by unfold betw; exact decide_eq_false (by omega)
  have b2 : betw ((930 : Nat) : Int) 913 937 = true := by unfold betw; exact decide_eq_true (by omega)
  have b3 : betw ((930 : Nat) : Int) 1040 1071 = false := by unfold betw; exact decide_eq_false (by omega)
  have b4 : betw ((930 : Nat) : Int) 1024 1039 = false := by unfold betw; exact decide_eq_false (by omega)
  have b5 : betw ((930 : Nat) : Int) 256 311 = false := by unfold betw; exact decide_eq_false (by omega)
  have b6 : betw ((930 : Nat) : Int) 330 375 = false := by unfold betw; exact decide_eq_false (by omega)
  have b7 : betw ((930 : Nat) : Int) 7680 7829 = false := by unfold betw; exact decide_eq_false (by omega)
  have b8 : betw ((930 : Nat) : Int) 313 328 = false := by unfold betw; exact decide_eq_false (by omega)
  have b9 : betw ((930 : Nat) : Int) 377 382 = false := by unfold betw; exact decide_eq_false (by omega)
  clear h h'
  go_enter Tryd.func37, Tryd.ntmps37
  go_wp2_with (go_at_call 32; refine (cbetween_any _ _ _ _).mono ?_; rintro e w' ⟨rfl, rfl⟩)
  go_ret
  first | exact ⟨rfl, rfl⟩ | exact ⟨by simp, rfl⟩ | exact ⟨congrArg (fun x => Ending.returned (.int .i32 x)) (by omega), rfl⟩
theorem csmall_21 (r : Nat) (h : 931 ≤ r) (h' : r ≤ 937) (w : World) : Smalls r w := by
  have e : smallN r = r + 32 := by
    unfold smallN
    repeat (first | rw [if_pos (by omega)] | rw [if_neg (by omega)])
  unfold Smalls
  rw [e]; clear e
  have r0 : (0 : Int) ≤ (r : Int) := by omega
  have r1 : (r : Int) ≤ 1114111 := by omega
  have q0 : ((r : Int) == 215) = false := beq_eq_false_iff_ne.2 (by omega)
  have q1 : ((r : Int) == 930) = false := beq_eq_false_iff_ne.2 (by omega)
  have q2 : ((r : Int) == 962) = false := beq_eq_false_iff_ne.2 (by omega)
  have b0 : betw (r : Int) 65 90 = false := by unfold betw; exact decide_eq_false (by omega)
  have b1 : betw (r : Int) 192 222 = false := by unfold betw; exact decide_eq_false (by omega)
  have b2 : betw (r : Int) 913 937 = true := by unfold betw; exact decide_eq_true (by omega)
  have b3 : betw (r : Int) 1040 1071 = false := by unfold betw; exact decide_eq_false (by omega)
  have b4 : betw (r : Int) 1024 1039 = false := by unfold betw; exact decide_eq_false (by omega)
  have b5 : betw (r : Int) 256 311 = false := by unfold betw; exact decide_eq_false (by omega)
  have b6 : betw (r : Int) 330 375 = false := by unfold betw; exact decide_eq_false (by omega)
  have b7 : betw (r : Int) 7680 7829 = false := by unfold betw; exact decide_eq_false (by omega)
  have b8 : betw (r : Int) 313 328 = false := by unfold betw; exact decide_eq_false (by omega)
  have b9 : betw (r : Int) 377 382 = false := by unfold betw; exact decide_eq_false (by omega)
  clear h h'
  go_enter Tryd.func37, Tryd.ntmps37
  go_wp2_with (go_at_call 32; refine (cbetween_any _ _ _ _).mono ?_; rintro e w' ⟨rfl, rfl⟩)
  go_ret
  first | exact ⟨rfl, rfl⟩ | exact ⟨by simp, rfl⟩ | exact ⟨congrArg (fun x => Ending.returned (.int .i32 x)) (by omega), rfl⟩
theorem csmall_22 (r : Nat) (h : 938 ≤ r) (h' : r ≤ 961) (w : World) : Smalls r w := by
  have e : smallN r = r := by
    unfold smallN
    repeat (first | rw [if_pos (by omega)] | rw [if_neg (by omega)])
  unfold Smalls
  rw [e]; clear e
  have r0 : (0 : Int) ≤ (r : Int) := by omega
  have r1 : (r : Int) ≤ 1114111 := by omega
  have q0 : ((r : Int) == 215) = false := beq_eq_false_iff_ne.2 (by omega)
  have q1 : ((r : Int) == 930) = false := beq_eq_false_iff_ne.2 (by omega)
  have q2 : ((r : Int) == 962) = false := beq_eq_false_iff_ne.2 (by omega)
  have b0 : betw (r : Int) 65 90 = false := by unfold betw; exact decide_eq_false (by omega)
  have b1 : betw (r : Int) 192 222 = false := by unfold betw; exact decide_eq_false (by omega)
  have b2 : betw (r : Int) 913 937 = false := by unfold betw; exact decide_eq_false (by omega)
  have b3 : betw (r : Int) 1040 1071 = false := by unfold betw; exact decide_eq_false (by omega)
  have b4 : betw (r : Int) 1024 1039 = false := by unfold betw; exact decide_eq_false (by omega)
  have b5 : betw (r : Int) 256 311 = false := by unfold betw; exact decide_eq_false (by omega)
  have b6 : betw (r : Int) 330 375 = false := by unfold betw; exact decide_eq_false (by omega)
  have b7 : betw (r : Int) 7680 7829 = false := by unfold betw; exact decide_eq_false (by omega)
  have b8 : betw (r : Int) 313 328 = false := by unfold betw; exact decide_eq_false (by omega)
  have b9 : betw (r : Int) 377 382 = false := by unfold betw; exact decide_eq_false (by omega)
  clear h h'
  go_enter Tryd.func37, Tryd.ntmps37
  go_wp2_with (go_at_call 32; refine (cbetween_any _ _ _ _).mono ?_; rintro e w' ⟨rfl, rfl⟩)
  go_ret
  first | exact ⟨rfl, rfl⟩ | exact ⟨by simp, rfl⟩ | exact ⟨congrArg (fun x => Ending.returned (.int .i32 x)) (by omega), rfl⟩
theorem csmall_23 (r : Nat) (h : 962 ≤ r) (h' : r ≤ 962) (w : World) : Smalls r w := by
  have e : smallN r = 963 := by
    unfold smallN
    repeat (first | rw [if_pos (by omega)] | rw [if_neg (by omega)])
  unfold Smalls
  rw [e]; clear e
  obtain rfl : r = 962 := by omega
  have b0 : betw ((962 : Nat) : Int) 65 90 = false := by unfold betw; exact decide_eq_false (by omega)
  have b1 : betw ((962 : Nat) : Int) 192 222 = false := by unfold betw; exact decide_eq_false (by omega)
  have b2 : betw ((962 : Nat) : Int) 913 937 = false := by unfold betw; exact decide_eq_false (by omega)
  have b3 : betw ((962 : Nat) : Int) 1040 1071 = false := by unfold betw; exact decide_eq_false (by omega)
  have b4 : betw ((962 : Nat) : Int) 1024 1039 = false := by unfold betw; exact decide_eq_false (by omega)
  have b5 : betw ((962 : Nat) : Int) 256 311 = false := by unfold betw; exact decide_eq_false (by omega)
  have b6 : betw ((962 : Nat) : Int) 330 375 = false := by unfold betw; exact decide_eq_false (by omega)
  have b7 : betw ((962 : Nat) : Int) 7680 7829 = false := by unfold betw; exact decide_eq_false (by omega)
  have b8 : betw ((962 : Nat) : Int) 313 328 = false := by unfold betw; exact decide_eq_false (by omega)
  have b9 : betw ((962 : Nat) : Int) 377 382 = false := by unfold betw; exact decide_eq_false (by omega)
  clear h h'
  go_enter Tryd.func37, Tryd.ntmps37
  go_wp2_with (go_at_call 32; refine (cbetween_any _ _ _ _).mono ?_; rintro e w' ⟨rfl, rfl⟩)
  go_ret
  first | exact ⟨rfl, rfl⟩ | exact ⟨by simp, rfl⟩ | exact ⟨congrArg (fun x => Ending.returned (.int .i32 x)) (by omega), rfl⟩
theorem csmall_24 (r : Nat) (h : 963 ≤ r) (h' : r ≤ 1023) (w : World) : Smalls r w := by
  have e : smallN r = r := by
    unfold smallN
    repeat (first | rw [if_pos (by omega)] | rw [if_neg (by omega)])
  unfold Smalls
  rw [e]; clear e
  have r0 : (0 : Int) ≤ (r : Int) := by omega
  have r1 : (r : Int) ≤ 1114111 := by omega
  have q0 : ((r : Int) == 215) = false := beq_eq_false_iff_ne.2 (by omega)
  have q1 : ((r : Int) == 930) = false := beq_eq_false_iff_ne.2 (by omega)
  have q2 : ((r : Int) == 962) = false := beq_eq_false_iff_ne.2 (by omega)
  have b0 : betw (r : Int) 65 90 = false := by unfold betw; exact decide_eq_false (by omega)
  have b1 : betw (r : Int) 192 222 = false := by unfold betw; exact decide_eq_false (by omega)
  have b2 : betw (r : Int) 913 937 = false := by unfold betw; exact decide_eq_false (by omega)
  have b3 : betw (r : Int) 1040 1071 = false := by unfold betw; exact decide_eq_false (by omega)
  have b4 : betw (r : Int) 1024 1039 = false := by unfold betw; exact decide_eq_false (by omega)
  have b5 : betw (r : Int) 256 311 = false := by unfold betw; exact decide_eq_false (by omega)
  have b6 : betw (r : Int) 330 375 = false := by unfold betw; exact decide_eq_false (by omega)
  have b7 : betw (r : Int) 7680 7829 = false := by unfold betw; exact decide_eq_false (by omega)
  have b8 : betw (r : Int) 313 328 = false := by unfold betw; exact decide_eq_false (by omega)
  have b9 : betw (r : Int) 377 382 = false := by unfold betw; exact decide_eq_false (by omega)
  clear h h'
  go_enter Tryd.func37, Tryd.ntmps37
  go_wp2_with (go_at_call 32; refine (cbetween_any _ _ _ _).mono ?_; rintro e w' ⟨rfl, rfl⟩)
  go_ret
  first | exact ⟨rfl, rfl⟩ | exact ⟨by simp, rfl⟩ | exact ⟨congrArg (fun x => Ending.returned (.int .i32 x)) (by omega), rfl⟩
theorem csmall_25 (r : Nat) (h : 1024 ≤ r) (h' : r ≤ 1039) (w : World) : Smalls r w := by
  have e : smallN r = r + 80 := by
    unfold smallN
    repeat (first | rw [if_pos (by omega)] | rw [if_neg (by omega)])
  unfold Smalls
  rw [e]; clear e
  have r0 : (0 : Int) ≤ (r : Int) := by omega
  have r1 : (r : Int) ≤ 1114111 := by omega
  have q0 : ((r : Int) == 215) = false := beq_eq_false_iff_ne.2 (by omega)
  have q1 : ((r : Int) == 930) = false := beq_eq_false_iff_ne.2 (by omega)
  have q2 : ((r : Int) == 962) = false := beq_eq_false_iff_ne.2 (by omega)
  have b0 : betw (r : Int) 65 90 = false := by unfold betw; exact decide_eq_false (by omega)
  have b1 : betw (r : Int) 192 222 = false := by unfold betw; exact decide_eq_false (by omega)
  have b2 : betw (r : Int) 913 937 = false := by unfold betw; exact decide_eq_false (by omega)
  have b3 : betw (r : Int) 1040 1071 = false := by unfold betw; exact decide_eq_false (by omega)
  have b4 : betw (r : Int) 1024 1039 = true := by unfold betw; exact decide_eq_true (by omega)
  have b5 : betw (r : Int) 256 311 = false := by unfold betw; exact decide_eq_false (by omega)
  have b6 : betw (r : Int) 330 375 = false := by unfold betw; exact decide_eq_false (by omega)
  have b7 : betw (r : Int) 7680 7829 = false := by unfold betw; exact decide_eq_false (by omega)
  have b8 : betw (r : Int) 313 328 = false := by unfold betw; exact decide_eq_false (by omega)
  have b9 : betw (r : Int) 377 382 = false := by unfold betw; exact decide_eq_false (by omega)
  clear h h'
  go_enter Tryd.func37, Tryd.ntmps37
  go_wp2_with (go_at_call 32; refine (cbetween_any _ _ _ _).mono ?_; rintro e w' ⟨rfl, rfl⟩)
  go_ret
  first | exact ⟨rfl, rfl⟩ | exact ⟨by simp, rfl⟩ | exact ⟨congrArg (fun x => Ending.returned (.int .i32 x)) (by omega), rfl⟩
theorem csmall_26 (r : Nat) (h : 1040 ≤ r) (h' : r ≤ 1071) (w : World) : Smalls r w := by
  have e : smallN r = r + 32 := by
    unfold smallN
    repeat (first | rw [if_pos (by omega)] | rw [if_neg (by omega)])
  unfold Smalls
  rw [e]; clear e
  have r0 : (0 : Int) ≤ (r : Int) := by omega
  have r1 : (r : Int) ≤ 1114111 := by omega
  have q0 : ((r : Int) == 215) = false := beq_eq_false_iff_ne.2 (by omega)
  have q1 : ((r : Int) == 930) = false := beq_eq_false_iff_ne.2 (by omega)
  have q2 : ((r : Int) == 962) = false := beq_eq_false_iff_ne.2 (by omega)
  have b0 : betw (r : Int) 65 90 = false := by unfold betw; exact decide_eq_false (by omega)
  have b1 : betw (r : Int) 192 222 = false := by unfold betw; exact decide_eq_false (by omega)
  have b2 : betw (r : Int) 913 937 = false := by unfold betw; exact decide_eq_false (by omega)
  have b3 : betw (r : Int) 1040 1071 = true := by unfold betw; exact decide_eq_true (by omega)
  have b4 : betw (r : Int) 1024 1039 = false := by unfold betw; exact decide_eq_false (by omega)
  have b5 : betw (r : Int) 256 311 = false := by unfold betw; exact decide_eq_false (by omega)
  have b6 : betw (r : Int) 330 375 = false := by unfold betw; exact decide_eq_false (by omega)
  have b7 : betw (r : Int) 7680 7829 = false := by unfold betw; exact decide_eq_false (by omega)
  have b8 : betw (r : Int) 313 328 = false := by unfold betw; exact decide_eq_false (by omega)
  have b9 : betw (r : Int) 377 382 = false := by unfold betw; exact decide_eq_false (by omega)
  clear h h'
  go_enter Tryd.func37, Tryd.ntmps37
  go_wp2_with (go_at_call 32; refine (cbetween_any _ _ _ _).mono ?_; rintro e w' ⟨rfl, rfl⟩)
  go_ret
  first | exact ⟨rfl, rfl⟩ | exact ⟨by simp, rfl⟩ | exact ⟨congrArg (fun x => Ending.returned (.int .i32 x)) (by omega), rfl⟩
theorem csmall_27 (r : Nat) (h : 1072 ≤ r) (h' : r ≤ 7679) (w : World) : Smalls r w := by
  have e : smallN r = r := by
    unfold smallN
    repeat (first | rw [if_pos (by omega)] | rw [if_neg (by omega)])
  unfold Smalls
  rw [e]; clear e
  have r0 : (0 : Int) ≤ (r : Int) := by omega
  have r1 : (r : Int) ≤ 1114111 := by omega
  have q0 : ((r : Int) == 215) = false := beq_eq_false_iff_ne.2 (by omega)
  have q1 : ((r : Int) == 930) = false := beq_eq_false_iff_ne.2 (by omega)
  have q2 : ((r : Int) == 962) = false := beq_eq_false_iff_ne.2 (by omega)
  have b0 : betw (r : Int) 65 90 = false := by unfold betw; exact decide_eq_false (by omega)
  have b1 : betw (r : Int) 192 222 = false := by unfold betw; exact decide_eq_false (by omega)
  have b2 : betw (r : Int) 913 937 = false := by unfold betw; exact decide_eq_false (by omega)
  have b3 : betw (r : Int) 1040 1071 = false := by unfold betw; exact decide_eq_false (by omega)
  have b4 : betw (r : Int) 1024 1039 = false := by unfold betw; exact decide_eq_false (by omega)
  have b5 : betw (r : Int) 256 311 = false := by unfold betw; exact decide_eq_false (by omega)
  have b6 : betw (r : Int) 330 375 = false := by unfold betw; exact decide_eq_false (by omega)
  have b7 : betw (r : Int) 7680 7829 = false := by unfold betw; exact decide_eq_false (by omega)
  have b8 : betw (r : Int) 313 328 = false := by unfold betw; exact decide_eq_false (by omega)
  have b9 : betw (r : Int) 377 382 = false := by unfold betw; exact decide_eq_false (by omega)
  clear h h'
  go_enter Tryd.func37, Tryd.ntmps37
  go_wp2_with (go_at_call 32; refine (cbetween_any _ _ _ _).mono ?_; rintro e w' ⟨rfl, rfl⟩)
  go_ret
  first | exact ⟨rfl, rfl⟩ | exact ⟨by simp, rfl⟩ | exact ⟨congrArg (fun x => Ending.returned (.int .i32 x)) (by omega), rfl⟩
theorem csmall_28 (r : Nat) (h : 7680 ≤ r) (h' : r ≤ 7829) (hp : r % 2 = 0) (w : World) : Smalls r w := by
  have e : smallN r = r + 1 := by
    unfold smallN
    repeat (first | rw [if_pos (by omega)] | rw [if_neg (by omega)])
  unfold Smalls
  rw [e]; clear e
  have r0 : (0 : Int) ≤ (r : Int) := by omega
  have r1 : (r : Int) ≤ 1114111 := by omega
  have q0 : ((r : Int) == 215) = false := beq_eq_false_iff_ne.2 (by omega)
  have q1 : ((r : Int) == 930) = false := beq_eq_false_iff_ne.2 (by omega)
  have q2 : ((r : Int) == 962) = false := beq_eq_false_iff_ne.2 (by omega)
  have b0 : betw (r : Int) 65 90 = false := by unfold betw; exact decide_eq_false (by omega)
  have b1 : betw (r : Int) 192 222 = false := by unfold betw; exact decide_eq_false (by omega)
  have b2 : betw (r : Int) 913 937 = false := by unfold betw; exact decide_eq_false (by omega)
  have b3 : betw (r : Int) 1040 1071 = false := by unfold betw; exact decide_eq_false (by omega)
  have b4 : betw (r : Int) 1024 1039 = false := by unfold betw; exact decide_eq_false (by omega)
  have b5 : betw (r : Int) 256 311 = false := by unfold betw; exact decide_eq_false (by omega)
  have b6 : betw (r : Int) 330 375 = false := by unfold betw; exact decide_eq_false (by omega)
  have b7 : betw (r : Int) 7680 7829 = true := by unfold betw; exact decide_eq_true (by omega)
  have b8 : betw (r : Int) 313 328 = false := by unfold betw; exact decide_eq_false (by omega)
  have b9 : betw (r : Int) 377 382 = false := by unfold betw; exact decide_eq_false (by omega)
  have o1 : bits .or .i32 (r : Int) 1 = (r : Int) + 1 := by rw [bits_or_one r (by omega)]; split <;> omega
  clear h h' hp
  go_enter Tryd.func37, Tryd.ntmps37
  go_wp2_with (go_at_call 32; refine (cbetween_any _ _ _ _).mono ?_; rintro e w' ⟨rfl, rfl⟩)
  go_ret
  first | exact ⟨rfl, rfl⟩ | exact ⟨by simp, rfl⟩ | exact ⟨congrArg (fun x => Ending.returned (.int .i32 x)) (by omega), rfl⟩
theorem csmall_29 (r : Nat) (h : 7680 ≤ r) (h' : r ≤ 7829) (hp : r % 2 = 1) (w : World) : Smalls r w := by
  have e : smallN r = r := by
    unfold smallN
    repeat (first | rw [if_pos (by omega)] | rw [if_neg (by omega)])
  unfold Smalls
  rw [e]; clear e
  have r0 : (0 : Int) ≤ (r : Int) := by omega
  have r1 : (r : Int) ≤ 1114111 := by omega
  have q0 : ((r : Int) == 215) = false := beq_eq_false_iff_ne.2 (by omega)
  have q1 : ((r : Int) == 930) = false := beq_eq_false_iff_ne.2 (by omega)
  have q2 : ((r : Int) == 962) = false := beq_eq_false_iff_ne.2 (by omega)
  have b0 : betw (r : Int) 65 90 = false := by unfold betw; exact decide_eq_false (by omega)
  have b1 : betw (r : Int) 192 222 = false := by unfold betw; exact decide_eq_false (by omega)
  have b2 : betw (r : Int) 913 937 = false := by unfold betw; exact decide_eq_false (by omega)
  have b3 : betw (r : Int) 1040 1071 = false := by unfold betw; exact decide_eq_false (by omega)
  have b4 : betw (r : Int) 1024 1039 = false := by unfold betw; exact decide_eq_false (by omega)
  have b5 : betw (r : Int) 256 311 = false := by unfold betw; exact decide_eq_false (by omega)
  have b6 : betw (r : Int) 330 375 = false := by unfold betw; exact decide_eq_false (by omega)
  have b7 : betw (r : Int) 7680 7829 = true := by unfold betw; exact decide_eq_true (by omega)
  have b8 : betw (r : Int) 313 328 = false := by unfold betw; exact decide_eq_false (by omega)
  have b9 : betw (r : Int) 377 382 = false := by unfold betw; exact decide_eq_false (by omega)
  have o1 : bits .or .i32 (r : Int) 1 = (r : Int) := by rw [bits_or_one r (by omega)]; split <;> omega
  clear h h' hp
  go_enter Tryd.func37, Tryd.ntmps37
  go_wp2_with (go_at_call 32; refine (cbetween_any _ _ _ _).mono ?_; rintro e w' ⟨rfl, rfl⟩)
  go_ret
  first | exact ⟨rfl, rfl⟩ | exact ⟨by simp, rfl⟩ | exact ⟨congrArg (fun x => Ending.returned (.int .i32 x)) (by omega), rfl⟩
theorem csmall_30 (r : Nat) (h : 7830 ≤ r) (h' : r ≤ 1114111) (w : World) : Smalls r w := by
  have e : smallN r = r := by
    unfold smallN
    repeat (first | rw [if_pos (by omega)] | rw [if_neg (by omega)])
  unfold Smalls
  rw [e]; clear e
  have r0 : (0 : Int) ≤ (r : Int) := by omega
  have r1 : (r : Int) ≤ 1114111 := by omega
  have q0 : ((r : Int) == 215) = false := beq_eq_false_iff_ne.2 (by omega)
  have q1 : ((r : Int) == 930) = false := beq_eq_false_iff_ne.2 (by omega)
  have q2 : ((r : Int) == 962) = false := beq_eq_false_iff_ne.2 (by omega)
  have b0 : betw (r : Int) 65 90 = false := by unfold betw; exact decide_eq_false (by omega)
  have b1 : betw (r : Int) 192 222 = false := by unfold betw; exact decide_eq_false (by omega)
  have b2 : betw (r : Int) 913 937 = false := by unfold betw; exact decide_eq_false (by omega)
  have b3 : betw (r : Int) 1040 1071 = false := by unfold betw; exact decide_eq_false (by omega)
  have b4 : betw (r : Int) 1024 1039 = false := by unfold betw; exact decide_eq_false (by omega)
  have b5 : betw (r : Int) 256 311 = false := by unfold betw; exact decide_eq_false (by omega)
  have b6 : betw (r : Int) 330 375 = false := by unfold betw; exact decide_eq_false (by omega)
  have b7 : betw (r : Int) 7680 7829 = false := by unfold betw; exact decide_eq_false (by omega)
  have b8 : betw (r : Int) 313 328 = false := by unfold betw; exact decide_eq_false (by omega)
  have b9 : betw (r : Int) 377 382 = false := by unfold betw; exact decide_eq_false (by omega)
  clear h h'
  go_enter Tryd.func37, Tryd.ntmps37
  go_wp2_with (go_at_call 32; refine (cbetween_any _ _ _ _).mono ?_; rintro e w' ⟨rfl, rfl⟩)
  go_ret
  first | exact ⟨rfl, rfl⟩ | exact ⟨by simp, rfl⟩ | exact ⟨congrArg (fun x => Ending.returned (.int .i32 x)) (by omega), rfl⟩
theorem csmall_any (r : Nat) (h : r ≤ 1114111) (w : World) : Smalls r w := by
  by_cases c0 : r ≤ 64
  · exact csmall_0 r (by omega) (by omega) w
  by_cases c1 : r ≤ 90
  · exact csmall_1 r (by omega) (by omega) w
  by_cases c2 : r ≤ 191
  · exact csmall_2 r (by omega) (by omega) w
  by_cases c3 : r ≤ 214
  · exact csmall_3 r (by omega) (by omega) w
  by_cases c4 : r ≤ 215
  · exact csmall_4 r (by omega) (by omega) w
  by_cases c5 : r ≤ 222
  · exact csmall_5 r (by omega) (by omega) w
  by_cases c6 : r ≤ 255
  · exact csmall_6 r (by omega) (by omega) w
  by_cases c7 : r ≤ 311 ∧ r % 2 = 0
  · exact csmall_7 r (by omega) (by omega) (by omega) w
  by_cases c8 : r ≤ 311 ∧ r % 2 = 1
  · exact csmall_8 r (by omega) (by omega) (by omega) w
  by_cases c9 : r ≤ 312
  · exact csmall_9 r (by omega) (by omega) w
  by_cases c10 : r ≤ 328 ∧ r % 2 = 0
  · exact csmall_10 r (by omega) (by omega) (by omega) w
  by_cases c11 : r ≤ 328 ∧ r % 2 = 1
  · exact csmall_11 r (by omega) (by omega) (by omega) w
  by_cases c12 : r ≤ 329
  · exact csmall_12 r (by omega) (by omega) w
  by_cases c13 : r ≤ 375 ∧ r % 2 = 0
  · exact csmall_13 r (by omega) (by omega) (by omega) w
  by_cases c14 : r ≤ 375 ∧ r % 2 = 1
  · exact csmall_14 r (by omega) (by omega) (by omega) w
  by_cases c15 : r ≤ 376
  · exact csmall_15 r (by omega) (by omega) w
  by_cases c16 : r ≤ 382 ∧ r % 2 = 0
  · exact csmall_16 r (by omega) (by omega) (by omega) w
  by_cases c17 : r ≤ 382 ∧ r % 2 = 1
  · exact csmall_17 r (by omega) (by omega) (by omega) w
  by_cases c18 : r ≤ 912
  · exact csmall_18 r (by omega) (by omega) w
  by_cases c19 : r ≤ 929
  · exact csmall_19 r (by omega) (by omega) w
  by_cases c20 : r ≤ 930
  · exact csmall_20 r (by omega) (by omega) w
  by_cases c21 : r ≤ 937
  · exact csmall_21 r (by omega) (by omega) w
  by_cases c22 : r ≤ 961
  · exact csmall_22 r (by omega) (by omega) w
  by_cases c23 : r ≤ 962
  · exact csmall_23 r (by omega) (by omega) w
  by_cases c24 : r ≤ 1023
  · exact csmall_24 r (by omega) (by omega) w
  by_cases c25 : r ≤ 1039
  · exact csmall_25 r (by omega) (by omega) w
  by_cases c26 : r ≤ 1071
  · exact csmall_26 r (by omega) (by omega) w
  by_cases c27 : r ≤ 7679
  · exact csmall_27 r (by omega) (by omega) w
  by_cases c28 : r ≤ 7829 ∧ r % 2 = 0
  · exact csmall_28 r (by omega) (by omega) (by omega) w
  by_cases c29 : r ≤ 7829 ∧ r % 2 = 1
  · exact csmall_29 r (by omega) (by omega) (by omega) w
  exact csmall_30 r (by omega) (by omega) w
end Go.Proofs.YtgnoiifakipliaaDoor
