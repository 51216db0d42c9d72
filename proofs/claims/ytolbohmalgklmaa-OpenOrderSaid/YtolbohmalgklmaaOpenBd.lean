/- Walks over the reference of layer 11: what bounds a scope (but for those of lists and buttons, which append). -/
import Derived.Test.YtolbohmalgklmaaOpenOne
namespace Go.Proofs.Ytolbohmalgklmaa
open Go.RowKit Go.Lib
set_option maxRecDepth 100000
set_option linter.unusedVariables false
set_option maxHeartbeats 16000000 in
theorem rbound_plain (i : Int) (sp pt sc : Nat) (nm : List UInt8) (w : World) (hsp : sp < 256) (hsc : sc < 256) (hS : sc ≠ 1 ∧ sc ≠ 2) :
    Calls Try.prog 30 #[.agg #[.int .i64 i, .int .u8 sp, .string (bs nm), .int .u8 pt], .int .u8 sc] w fun e w' => e = .returned (.bool (Opn.boundB ⟨i, sp, nm, pt⟩ sc)) ∧ Below w.heap.size w w' := by
  have al := hid ((Below.refl w.heap.size w).alloc (Nat.le_refl _) (.cells #[.int .i64 i, .int .u8 sp, .string (bs nm), .int .u8 pt] 37))
  have HO := hid fun (a : Addr) W (h : IsS W (some a) 3 Opn.tabN) => rone_any i sp pt nm (some a) 3 3 Opn.tabN W h (by omega) (by omega) (by omega)
  have HS := hid fun W => rspec_any sp nm W hsp
  have HR := hid (show Opn.boundB ⟨i, sp, nm, pt⟩ sc = if sc = 3 then Opn.oneB ⟨i, sp, nm, pt⟩ Opn.tabN else if sp ≠ 0 then Opn.specialB sp nm else (Opn.boundN sc).contains nm from rfl)
  generalize Opn.boundB ⟨i, sp, nm, pt⟩ sc = R at *
  by_cases h3 : sc = 3
  · subst h3
    generalize Opn.oneB ⟨i, sp, nm, pt⟩ Opn.tabN = c at *
    generalize bs nm = X at *
    have al2 := hid (al.out.alloc al.out.size (.cells #[.string ⟨#[104, 116, 109, 108]⟩, .string ⟨#[116, 97, 98, 108, 101]⟩, .string ⟨#[116, 101, 109, 112, 108, 97, 116, 101]⟩] 9))
    have HN : Hid (IsS ((w.alloc (.cells #[.int .i64 i, .int .u8 sp, .string X, .int .u8 pt] 37)).alloc (.cells #[.string ⟨#[104, 116, 109, 108]⟩, .string ⟨#[116, 97, 98, 108, 101]⟩, .string ⟨#[116, 101, 109, 112, 108, 97, 116, 101]⟩] 9)) (some ⟨w.heap.size + 1, 0, none⟩) 3 Opn.tabN) := by
      have h := heap_alloc_new (w.alloc (.cells #[.int .i64 i, .int .u8 sp, .string X, .int .u8 pt] 37)) (.cells #[.string ⟨#[104, 116, 109, 108]⟩, .string ⟨#[116, 97, 98, 108, 101]⟩, .string ⟨#[116, 101, 109, 112, 108, 97, 116, 101]⟩] 9)
      rw [show (w.alloc (.cells #[.int .i64 i, .int .u8 sp, .string X, .int .u8 pt] 37)).heap.size = w.heap.size + 1 by simp] at h
      exact hid (isS_of_block rfl h rfl)
    go_enter Try.func30, Try.ntmps30
    go_wp2_with fail
    refine (HO.out _ _ HN.out).mono ?_
    rintro e w2 ⟨rfl, b2⟩
    have B2 := hid (al2.out.trans (b2.mono al2.out.size))
    go_wp2
    go_ret
    exact ⟨ret_bool' (by rw [HR.out]; simp), B2.out⟩
  · have d3 : decide (sc = 3) = false := decide_eq_false h3
    by_cases h0 : sp = 0
    · subst h0
      have d1 : decide (sc = 1) = false := decide_eq_false hS.1
      have d2 : decide (sc = 2) = false := decide_eq_false hS.2
      have hb : Opn.boundN sc = Opn.allN := by unfold Opn.boundN; rw [if_neg hS.1, if_neg hS.2]
      rw [hb] at HR
      have HI := hid fun W (h : IsS W (some ⟨w.heap.size + 1, 0, none⟩) 9 Opn.allN) => oin_any (some ⟨w.heap.size + 1, 0, none⟩) 9 9 Opn.allN nm W h (by omega) (by omega) (by omega)
      generalize Opn.allN.contains nm = c at *
      generalize bs nm = X at *
      have al2 := hid (((Below.refl w.heap.size w).alloc (Nat.le_refl _) (.cells #[.int .i64 i, .int .u8 0, .string X, .int .u8 pt] 37)).alloc (by simp) (.cells #[.string ⟨#[97, 112, 112, 108, 101, 116]⟩, .string ⟨#[99, 97, 112, 116, 105, 111, 110]⟩, .string ⟨#[104, 116, 109, 108]⟩, .string ⟨#[109, 97, 114, 113, 117, 101, 101]⟩, .string ⟨#[111, 98, 106, 101, 99, 116]⟩, .string ⟨#[116, 97, 98, 108, 101]⟩, .string ⟨#[116, 100]⟩, .string ⟨#[116, 101, 109, 112, 108, 97, 116, 101]⟩, .string ⟨#[116, 104]⟩] 9))
      have HN : Hid (IsS ((w.alloc (.cells #[.int .i64 i, .int .u8 0, .string X, .int .u8 pt] 37)).alloc (.cells #[.string ⟨#[97, 112, 112, 108, 101, 116]⟩, .string ⟨#[99, 97, 112, 116, 105, 111, 110]⟩, .string ⟨#[104, 116, 109, 108]⟩, .string ⟨#[109, 97, 114, 113, 117, 101, 101]⟩, .string ⟨#[111, 98, 106, 101, 99, 116]⟩, .string ⟨#[116, 97, 98, 108, 101]⟩, .string ⟨#[116, 100]⟩, .string ⟨#[116, 101, 109, 112, 108, 97, 116, 101]⟩, .string ⟨#[116, 104]⟩] 9)) (some ⟨w.heap.size + 1, 0, none⟩) 9 Opn.allN) := by
        have h := heap_alloc_new (w.alloc (.cells #[.int .i64 i, .int .u8 0, .string X, .int .u8 pt] 37)) (.cells #[.string ⟨#[97, 112, 112, 108, 101, 116]⟩, .string ⟨#[99, 97, 112, 116, 105, 111, 110]⟩, .string ⟨#[104, 116, 109, 108]⟩, .string ⟨#[109, 97, 114, 113, 117, 101, 101]⟩, .string ⟨#[111, 98, 106, 101, 99, 116]⟩, .string ⟨#[116, 97, 98, 108, 101]⟩, .string ⟨#[116, 100]⟩, .string ⟨#[116, 101, 109, 112, 108, 97, 116, 101]⟩, .string ⟨#[116, 104]⟩] 9)
        rw [show (w.alloc (.cells #[.int .i64 i, .int .u8 0, .string X, .int .u8 pt] 37)).heap.size = w.heap.size + 1 by simp] at h
        exact hid (isS_of_block rfl h rfl)
      clear al HO HS
      go_enter Try.func30, Try.ntmps30
      go_wp2_with fail
      refine (HI.out _ HN.out).mono ?_
      rintro e w2 ⟨rfl, rfl⟩
      go_wp2
      go_ret
      exact ⟨ret_bool' (by rw [HR.out]; simp [h3]), al2.out⟩
    · have d0 : decide (sp = 0) = false := decide_eq_false h0
      generalize Opn.specialB sp nm = c at *
      generalize bs nm = X at *
      go_enter Try.func30, Try.ntmps30
      go_wp2_with fail
      refine (HS.out _).mono ?_
      rintro e w2 ⟨rfl, b2⟩
      have B2 := hid (al.out.trans (b2.mono al.out.size))
      go_wp2
      go_ret
      exact ⟨ret_bool' (by rw [HR.out, if_neg h3, if_pos h0]), B2.out⟩
end Go.Proofs.Ytolbohmalgklmaa
