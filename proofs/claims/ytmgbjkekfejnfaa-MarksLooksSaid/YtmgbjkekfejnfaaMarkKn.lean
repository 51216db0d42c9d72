/- Walks over the statements of layer 12: the chapter's example. Written by tools/gen_markkn.py. -/
import Derived.Test.YtmgbjkekfejnfaaMarkC
namespace Go.Proofs.Ytmgbjkekfejnfaa
open Go.RowKit Go.Lib
set_option maxRecDepth 100000
set_option linter.unusedVariables false
def kA : List (Int × List UInt8) := [(1, [98]), (2, [98]), (3, [98])]
def kB : List (Int × List UInt8) := [(1, [98]), (2, [98]), (-1, []), (3, [98])]
theorem push_A : Mk.pushL (kA.map fun p => bareX p.1 p.2) (bareX 4 [98]) = [bareX 2 [98], bareX 3 [98], bareX 4 [98]] := by rfl
theorem push_B : Mk.pushL (kB.map fun p => bareX p.1 p.2) (bareX 4 [98]) = [bareX 1 [98], bareX 2 [98], bareX (-1) [], bareX 3 [98], bareX 4 [98]] := by rfl
theorem last_B : Mk.lastI [bareX 1 [98], bareX 2 [98], bareX (-1) [], bareX 3 [98], bareX 4 [98]] [98] (Mk.behind [bareX 1 [98], bareX 2 [98], bareX (-1) [], bareX 3 [98], bareX 4 [98]] 5) 5 = 4 := by rfl
theorem find_B : findR [bareX 1 [98], bareX 2 [98], bareX (-1) [], bareX 3 [98], bareX 4 [98]] 2 = 1 := by rfl
theorem clear_B : Mk.clearL [bareX 1 [98], bareX 2 [98], bareX (-1) [], bareX 3 [98], bareX 4 [98]] = [bareX 1 [98], bareX 2 [98]] := by rfl
theorem short_kA : ShortM (kA.map fun p => bareX p.1 p.2) := by unfold ShortM; decide
theorem short_kB : ShortM (kB.map fun p => bareX p.1 p.2) := by unfold ShortM; decide
theorem short_B : ShortM [bareX 1 [98], bareX 2 [98], bareX (-1) [], bareX 3 [98], bareX 4 [98]] := by unfold ShortM; decide
set_option maxHeartbeats 32000000 in
theorem knownM_any (K : MarksC) (w : World) : Calls Try.prog 12 #[] w fun e w' => e = .returned (.bool true) ∧ Below w.heap.size w w' := by
  have HB := hid fun (i : Int) W => b_any i W
  have HP := hid K.push
  go_enter Try.func12, Try.ntmps12
  go_wp2_with fail
  refine (HB.out 1 w).mono ?_
  rintro e w1 ⟨rfl, bx⟩
  have B1 := hid ((Below.refl w.heap.size w).trans (bx.mono (Below.refl w.heap.size w).size))
  clear bx
  go_wp2_with fail
  refine (HB.out 2 w1).mono ?_
  rintro e w2 ⟨rfl, bx⟩
  have B2 := hid (B1.out.trans (bx.mono B1.out.size))
  clear bx
  go_wp2_with fail
  refine (HB.out 3 w2).mono ?_
  rintro e w3 ⟨rfl, bx⟩
  have B3 := hid (B2.out.trans (bx.mono B2.out.size))
  clear bx
  have HL := hid (marks_lit w3 kA (C := #[.int .i64 1, .string ⟨#[98]⟩, .slice none 0 0, .int .i64 2, .string ⟨#[98]⟩, .slice none 0 0, .int .i64 3, .string ⟨#[98]⟩, .slice none 0 0]) (n := 3) rfl rfl (by omega))
  have HA := hid (B3.out.alloc B3.out.size (.cells #[.int .i64 1, .string ⟨#[98]⟩, .slice none 0 0, .int .i64 2, .string ⟨#[98]⟩, .slice none 0 0, .int .i64 3, .string ⟨#[98]⟩, .slice none 0 0] 25))
  have hal := (Below.refl w3.heap.size w3).alloc (Nat.le_refl _) (.cells #[.int .i64 1, .string ⟨#[98]⟩, .slice none 0 0, .int .i64 2, .string ⟨#[98]⟩, .slice none 0 0, .int .i64 3, .string ⟨#[98]⟩, .slice none 0 0] 25)
  clear hal
  go_wp2_with fail
  refine (HB.out 4 _).mono ?_
  rintro e w4 ⟨rfl, bx⟩
  have B4 := hid (HA.out.trans (bx.mono HA.out.size))
  have HL := hid (HL.out.below bx)
  clear bx HA
  go_wp2_with fail
  refine (HP.out _ _ _ _ _ (bareR 4 [98]) (bareX 4 [98]) _ HL.out (bare_fit _ _ _) (by omega) short_kA (by decide)).mono ?_
  rintro e w5 ⟨⟨aA, cA, rA, rfl, mA, _⟩, bx⟩
  have B5 := hid (B4.out.trans (bx.mono B4.out.size))
  rw [push_A] at mA ⊢
  have MA := hid mA
  clear bx HL mA
  go_wp2_with fail
  refine (HB.out 1 w5).mono ?_
  rintro e w6 ⟨rfl, bx⟩
  have B6 := hid (B5.out.trans (bx.mono B5.out.size))
  have MA := hid (MA.out.below bx)
  clear bx
  go_wp2_with fail
  refine (HB.out 2 w6).mono ?_
  rintro e w7 ⟨rfl, bx⟩
  have B7 := hid (B6.out.trans (bx.mono B6.out.size))
  have MA := hid (MA.out.below bx)
  clear bx
  go_wp2_with fail
  refine (HB.out 3 w7).mono ?_
  rintro e w8 ⟨rfl, bx⟩
  have B8 := hid (B7.out.trans (bx.mono B7.out.size))
  have MA := hid (MA.out.below bx)
  clear bx
  have HL := hid (marks_lit w8 kB (C := #[.int .i64 1, .string ⟨#[98]⟩, .slice none 0 0, .int .i64 2, .string ⟨#[98]⟩, .slice none 0 0, .int .i64 (-1), .string ⟨#[]⟩, .slice none 0 0, .int .i64 3, .string ⟨#[98]⟩, .slice none 0 0]) (n := 4) rfl rfl (by omega))
  have HA := hid (B8.out.alloc B8.out.size (.cells #[.int .i64 1, .string ⟨#[98]⟩, .slice none 0 0, .int .i64 2, .string ⟨#[98]⟩, .slice none 0 0, .int .i64 (-1), .string ⟨#[]⟩, .slice none 0 0, .int .i64 3, .string ⟨#[98]⟩, .slice none 0 0] 25))
  have hal := (Below.refl w8.heap.size w8).alloc (Nat.le_refl _) (.cells #[.int .i64 1, .string ⟨#[98]⟩, .slice none 0 0, .int .i64 2, .string ⟨#[98]⟩, .slice none 0 0, .int .i64 (-1), .string ⟨#[]⟩, .slice none 0 0, .int .i64 3, .string ⟨#[98]⟩, .slice none 0 0] 25)
  have MA := hid (MA.out.below hal)
  clear hal
  go_wp2_with fail
  refine (HB.out 4 _).mono ?_
  rintro e w9 ⟨rfl, bx⟩
  have B9 := hid (HA.out.trans (bx.mono HA.out.size))
  have HL := hid (HL.out.below bx)
  have MA := hid (MA.out.below bx)
  clear bx HA
  go_wp2_with fail
  refine (HP.out _ _ _ _ _ (bareR 4 [98]) (bareX 4 [98]) _ HL.out (bare_fit _ _ _) (by omega) short_kB (by decide)).mono ?_
  rintro e w10 ⟨⟨aB, cB, rB, rfl, mB, _⟩, bx⟩
  have B10 := hid (B9.out.trans (bx.mono B9.out.size))
  have MA := hid (MA.out.below bx)
  rw [push_B] at mB ⊢
  have MB := hid mB
  clear bx HL mB
  go_wp2_with fail
  refine (HB.out 1 w10).mono ?_
  rintro e w11 ⟨rfl, bx⟩
  have B11 := hid (B10.out.trans (bx.mono B10.out.size))
  have MA := hid (MA.out.below bx)
  have MB := hid (MB.out.below bx)
  clear bx
  go_wp2_with fail
  refine (HB.out 2 w11).mono ?_
  rintro e w12 ⟨rfl, bx⟩
  have B12 := hid (B11.out.trans (bx.mono B11.out.size))
  have MA := hid (MA.out.below bx)
  have MB := hid (MB.out.below bx)
  clear bx
  go_wp2_with fail
  refine (HB.out 3 w12).mono ?_
  rintro e w13 ⟨rfl, bx⟩
  have B13 := hid (B12.out.trans (bx.mono B12.out.size))
  have MA := hid (MA.out.below bx)
  have MB := hid (MB.out.below bx)
  clear bx
  have HL := hid (marks_lit w13 kA (C := #[.int .i64 1, .string ⟨#[98]⟩, .slice none 0 0, .int .i64 2, .string ⟨#[98]⟩, .slice none 0 0, .int .i64 3, .string ⟨#[98]⟩, .slice none 0 0]) (n := 3) rfl rfl (by omega))
  have HA := hid (B13.out.alloc B13.out.size (.cells #[.int .i64 1, .string ⟨#[98]⟩, .slice none 0 0, .int .i64 2, .string ⟨#[98]⟩, .slice none 0 0, .int .i64 3, .string ⟨#[98]⟩, .slice none 0 0] 25))
  have hal := (Below.refl w13.heap.size w13).alloc (Nat.le_refl _) (.cells #[.int .i64 1, .string ⟨#[98]⟩, .slice none 0 0, .int .i64 2, .string ⟨#[98]⟩, .slice none 0 0, .int .i64 3, .string ⟨#[98]⟩, .slice none 0 0] 25)
  have hal2 := (Below.refl (w13.alloc (.cells #[.int .i64 1, .string ⟨#[98]⟩, .slice none 0 0, .int .i64 2, .string ⟨#[98]⟩, .slice none 0 0, .int .i64 3, .string ⟨#[98]⟩, .slice none 0 0] 25)).heap.size (w13.alloc (.cells #[.int .i64 1, .string ⟨#[98]⟩, .slice none 0 0, .int .i64 2, .string ⟨#[98]⟩, .slice none 0 0, .int .i64 3, .string ⟨#[98]⟩, .slice none 0 0] 25))).alloc (Nat.le_refl _) (.cells #[.int .i64 1, .int .u8 0, .string ⟨#[]⟩, .int .u8 0] 46)
  have hob := BlkW.new (w13.alloc (.cells #[.int .i64 1, .string ⟨#[98]⟩, .slice none 0 0, .int .i64 2, .string ⟨#[98]⟩, .slice none 0 0, .int .i64 3, .string ⟨#[98]⟩, .slice none 0 0] 25)) #[.int .i64 1, .int .u8 0, .string ⟨#[]⟩, .int .u8 0] 46
  rw [World.size_alloc] at hob
  have HO : Hid (IsE ((w13.alloc (.cells #[.int .i64 1, .string ⟨#[98]⟩, .slice none 0 0, .int .i64 2, .string ⟨#[98]⟩, .slice none 0 0, .int .i64 3, .string ⟨#[98]⟩, .slice none 0 0] 25)).alloc (.cells #[.int .i64 1, .int .u8 0, .string ⟨#[]⟩, .int .u8 0] 46)) (some ⟨w13.heap.size + 1, 0, none⟩) 1 [⟨1, 0, [], 0⟩]) := hid ⟨rfl, .inr ⟨w13.heap.size + 1, 0, rfl, fun i x hi => by
    match i, hi with
    | 0, hi =>
      simp at hi
      subst hi
      exact ⟨hob.cell 0, hob.cell 1, hob.cell 2, hob.cell 3⟩
    | i + 1, hi => simp at hi⟩⟩
  have HL := hid (HL.out.below hal2)
  have HA := hid (HA.out.trans (hal2.mono HA.out.size))
  have MA := hid ((MA.out.below hal).below hal2)
  have MB := hid ((MB.out.below hal).below hal2)
  clear hal hal2 hob
  go_wp2_with fail
  refine (K.lost _ _ _ _ _ _ _ 1 _ _ HL.out HO.out (by omega) (by omega) (by omega) (by omega)).mono ?_
  rintro e w14 ⟨rfl, bx⟩
  have B14 := hid (HA.out.trans (bx.mono HA.out.size))
  have MA := hid (MA.out.below bx)
  have MB := hid (MB.out.below bx)
  clear bx HA HL HO
  rw [show Mk.lostN (kA.map fun p => bareX p.1 p.2) ([(⟨1, 0, [], 0⟩ : Opn.E)].map (·.id)) 3 = 1 from rfl]
  obtain ⟨ab, ao, ar, ax, aq, _, ahx, _, ac0, _, _⟩ := MA.out.get (show 0 < 3 by omega)
  obtain ⟨ab2, ao2, ar2, ax2, aq2, _, ahx2, _, ac2, _, _⟩ := MA.out.get (show 2 < 3 by omega)
  rw [aq] at aq2
  cases aq2
  cases ahx
  cases ahx2
  subst aq
  have ac0' : w14.cell? ⟨ab, ao, none⟩ = some (.int .i64 2) := ac0
  have ac2' : w14.cell? ⟨ab, ao + 6, none⟩ = some (.int .i64 4) := ac2
  clear ac0 ac2
  have KL := hid fun W (h : MarksIn aB 5 cB rB [bareX 1 [98], bareX 2 [98], bareX (-1) [], bareX 3 [98], bareX 4 [98]] W) => (show Calls Try.prog 15 #[.slice aB 5 cB, .string ⟨#[98]⟩] W fun e w' => e = .returned (.int .i64 4) ∧ Below W.heap.size W w' by have := K.last _ _ _ _ _ [98] W h (by omega); rwa [last_B] at this)
  have KC := hid fun W (h : MarksIn aB 5 cB rB [bareX 1 [98], bareX 2 [98], bareX (-1) [], bareX 3 [98], bareX 4 [98]] W) => K.clear _ _ _ _ _ W h (by omega) short_B
  have KF := hid fun W (h : MarksIn aB 5 cB rB [bareX 1 [98], bareX 2 [98], bareX (-1) [], bareX 3 [98], bareX 4 [98]] W) => (show Calls Try.prog 17 #[.slice aB 5 cB, .int .i64 2] W fun e w' => e = .returned (.int .i64 1) ∧ Below W.heap.size W w' by have := K.find _ _ _ _ _ 2 W h (by omega) (by omega) (by omega); rwa [find_B] at this)
  rw [clear_B] at KC
  go_wp2_with fail
  refine (KL.out _ MB.out).mono ?_
  rintro e u1 ⟨rfl, bx⟩
  have C1 := hid (B14.out.trans (bx.mono B14.out.size))
  have MB := hid (MB.out.below bx)
  clear bx
  go_wp2_with fail
  refine (KC.out _ MB.out).mono ?_
  rintro e u2 ⟨⟨aC, cC, rC, rfl, _, _⟩, bx⟩
  have C2 := hid (C1.out.trans (bx.mono C1.out.size))
  have MB := hid (MB.out.below bx)
  clear bx
  go_wp2_with fail
  refine (KF.out _ MB.out).mono ?_
  rintro e u3 ⟨rfl, bx⟩
  have C3 := hid (C2.out.trans (bx.mono C2.out.size))
  clear bx
  go_wp2
  go_ret
  exact ⟨rfl, C3.out⟩
end Go.Proofs.Ytmgbjkekfejnfaa
