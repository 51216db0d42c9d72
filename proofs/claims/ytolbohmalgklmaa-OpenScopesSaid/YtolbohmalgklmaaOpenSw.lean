/- Walks over the program's switches over names: what is special of HTML's own elements; what formats. Written by tools/gen_opensw.py. -/
import Derived.Test.YtolbohmalgklmaaOpenIn
namespace Go.Proofs.Ytolbohmalgklmaa
open Go.RowKit Go.Lib
set_option maxRecDepth 100000
set_option linter.unusedVariables false
theorem bs_list (x : List UInt8) : (bs x).toList = x := by rw [ByteArray.toList_eq]; rfl
theorem con_yes {ns : List (List UInt8)} {y n : List UInt8} {R : Bool} (hR : ns.contains y = R) (h : (y == n) = true) (hm : ns.contains n = true) : R = true := by
  rw [← hR, beq_iff_eq.1 h, hm]
set_option maxHeartbeats 64000000 in
theorem pfmt_any (x : List UInt8) (w : World) :
    Calls Try.prog 14 #[.string (bs x)] w fun e w' => e = .returned (.bool (Opn.fmtN.contains x)) ∧ w = w' := by
  have HR : Hid (Opn.fmtN.contains (bs x).toList = Opn.fmtN.contains x) := hid (by rw [bs_list])
  generalize Opn.fmtN.contains x = R at *
  generalize bs x = X at *
  go_enter Try.func14, Try.ntmps14
  go_wp2
  all_goals go_ret
  all_goals refine ⟨ret_bool' ?_, rfl⟩
  all_goals first
    | (rename_i h; exact (con_yes HR.out h rfl).symm)
    | (rename_i h1 h2; rw [h1] at h2; cases h2)
    | (rw [← HR.out]; simp only [Opn.fmtN, List.contains_cons, List.contains_nil, Bool.or_self, *])
set_option maxHeartbeats 64000000 in
theorem pspecH_any (x : List UInt8) (w : World) :
    Calls Try.prog 31 #[.string (bs x)] w fun e w' => e = .returned (.bool (Opn.specH.contains x)) ∧ w = w' := by
  have HR : Hid (Opn.specH.contains (bs x).toList = Opn.specH.contains x) := hid (by rw [bs_list])
  generalize Opn.specH.contains x = R at *
  generalize bs x = X at *
  go_enter Try.func31, Try.ntmps31
  go_wp2
  all_goals go_ret
  all_goals refine ⟨ret_bool' ?_, rfl⟩
  all_goals first
    | (rename_i h; exact (con_yes HR.out h rfl).symm)
    | (rename_i h1 h2; rw [h1] at h2; cases h2)
    | (rw [← HR.out]; simp only [Opn.specH, List.contains_cons, List.contains_nil, Bool.or_self, *])
end Go.Proofs.Ytolbohmalgklmaa
