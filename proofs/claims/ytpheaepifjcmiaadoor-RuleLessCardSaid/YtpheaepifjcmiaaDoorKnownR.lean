/- Walks: the statements' head of layer 5, 'known': the chapter's example. -/
import Derived.Test.YtpheaepifjcmiaaDoorBasePol
import Derived.Test.YtpheaepifjcmiaaDoorKeeps
namespace Go.Proofs.YtpheaepifjcmiaaDoor
open Go.RowKit Go.Lib Rule
set_option maxRecDepth 100000
set_option linter.unusedVariables false

theorem k_keep1 (g : Nat) (V : World) (h : PolW V (some ⟨g, 0, none⟩) 26 26 bEl (some ⟨g + 1, 0, none⟩) 9 9 bAt (some ⟨g + 1 + 1, 0, none⟩) 3 3 bSc) (hT : UrlW V) : Calls Tryd.prog 15 #[.agg #[.slice (some ⟨g, 0, none⟩) 26 26, .slice (some ⟨g + 1, 0, none⟩) 9 9, .slice (some ⟨g + 1 + 1, 0, none⟩) 3 3], .string ⟨#[97]⟩, .agg #[.string ⟨#[104, 114, 101, 102]⟩, .string ⟨#[74, 97, 118, 97, 83, 99, 114, 105, 112, 116, 58, 120]⟩]] V fun e w' => e = .returned (.bool false) ∧ Below V.heap.size V w' :=
  (keeps_any _ _ _ _ _ _ _ _ _ _ _ _ [97] [104, 114, 101, 102] [74, 97, 118, 97, 83, 99, 114, 105, 112, 116, 58, 120] V h hT (by decide) (by decide) (by decide)).mono fun e w' ⟨h1, h2⟩ => ⟨by rw [h1, show keepsB bAt bSc [97] [104, 114, 101, 102] [74, 97, 118, 97, 83, 99, 114, 105, 112, 116, 58, 120] = false by decide +kernel], h2⟩
theorem k_keep2 (g : Nat) (V : World) (h : PolW V (some ⟨g, 0, none⟩) 26 26 bEl (some ⟨g + 1, 0, none⟩) 9 9 bAt (some ⟨g + 1 + 1, 0, none⟩) 3 3 bSc) (hT : UrlW V) : Calls Tryd.prog 15 #[.agg #[.slice (some ⟨g, 0, none⟩) 26 26, .slice (some ⟨g + 1, 0, none⟩) 9 9, .slice (some ⟨g + 1 + 1, 0, none⟩) 3 3], .string ⟨#[97]⟩, .agg #[.string ⟨#[104, 114, 101, 102]⟩, .string ⟨#[47, 120]⟩]] V fun e w' => e = .returned (.bool true) ∧ Below V.heap.size V w' :=
  (keeps_any _ _ _ _ _ _ _ _ _ _ _ _ [97] [104, 114, 101, 102] [47, 120] V h hT (by decide) (by decide) (by decide)).mono fun e w' ⟨h1, h2⟩ => ⟨by rw [h1, show keepsB bAt bSc [97] [104, 114, 101, 102] [47, 120] = true by decide +kernel], h2⟩
theorem k_check1 (g : Nat) (V : World) (h : PolW V (some ⟨g, 0, none⟩) 26 26 bEl (some ⟨g + 1, 0, none⟩) 9 9 bAt (some ⟨g + 1 + 1, 0, none⟩) 3 3 bSc) (hT : UrlW V) : Calls Tryd.prog 9 #[.agg #[.slice (some ⟨g, 0, none⟩) 26 26, .slice (some ⟨g + 1, 0, none⟩) 9 9, .slice (some ⟨g + 1 + 1, 0, none⟩) 3 3]] V fun e w' => e = .returned (.int .u16 0) ∧ Below V.heap.size V w' :=
  (check_any _ _ _ _ _ _ _ _ _ _ _ _ V h hT).mono fun e w' ⟨h1, h2⟩ => ⟨by rw [h1, show okB bEl bAt bSc = true by decide +kernel]; rfl, h2⟩
theorem k_check2 (g : Nat) (V : World) (h : IsS V (some ⟨g, 0, none⟩) 1 [[116, 114]]) (hT : UrlW V) : Calls Tryd.prog 9 #[.agg #[.slice (some ⟨g, 0, none⟩) 1 1, .slice none 0 0, .slice none 0 0]] V fun e w' => e = .returned (.int .u16 50) ∧ Below V.heap.size V w' :=
  (check_any _ _ _ _ none 0 0 [] none 0 0 [] V ⟨h, ⟨rfl, .inl rfl⟩, ⟨rfl, .inl rfl⟩, by omega, by omega, by omega, by omega, by omega, by omega, by omega, by omega, by omega, by decide, by decide, by decide⟩ hT).mono fun e w' ⟨h1, h2⟩ => ⟨by rw [h1, show okB [[116, 114]] [] [] = false by decide +kernel]; rfl, h2⟩
theorem k_known1 (V : World) : Calls Tryd.prog 21 #[.string ⟨#[98]⟩] V fun e w' => e = .returned (.bool true) ∧ Below V.heap.size V w' :=
  (known_one (bs [98]) V (by decide)).mono fun e w' ⟨h1, h2⟩ => ⟨by rw [h1, show knownB (bs [98]).data.toList = true by decide +kernel], h2⟩
theorem k_known2 (V : World) : Calls Tryd.prog 21 #[.string ⟨#[115, 99, 114, 105, 112, 116]⟩] V fun e w' => e = .returned (.bool false) ∧ Below V.heap.size V w' :=
  (known_one (bs [115, 99, 114, 105, 112, 116]) V (by decide)).mono fun e w' ⟨h1, h2⟩ => ⟨by rw [h1, show knownB (bs [115, 99, 114, 105, 112, 116]).data.toList = false by decide +kernel], h2⟩
theorem k_has (g : Nat) (V : World) (h : PolW V (some ⟨g, 0, none⟩) 26 26 bEl (some ⟨g + 1, 0, none⟩) 9 9 bAt (some ⟨g + 1 + 1, 0, none⟩) 3 3 bSc) : Calls Tryd.prog 19 #[.agg #[.slice (some ⟨g, 0, none⟩) 26 26, .slice (some ⟨g + 1, 0, none⟩) 9 9, .slice (some ⟨g + 1 + 1, 0, none⟩) 3 3], .string ⟨#[101, 109]⟩] V fun e w' => e = .returned (.bool true) ∧ Below V.heap.size V w' :=
  (has_pol _ _ _ _ _ bEl [101, 109] V h.is1 (by omega)).mono fun e w' ⟨h1, h2⟩ => ⟨by rw [h1, show bEl.contains [101, 109] = true by decide +kernel], h2⟩

set_option maxHeartbeats 2000000 in
theorem known5_any (w : World) (hT : UrlW w) : Calls Tryd.prog 10 #[] w fun e w' => e = .returned (.bool true) ∧ Below w.heap.size w w' := by
  have HT := hid hT
  clear hT
  go_enter Tryd.func10, Tryd.ntmps10
  go_wp2_with fail
  refine (base_any _).mono ?_
  rintro e w1 hB
  have hPol := hB.pol
  obtain ⟨rfl, _, _, _, b1⟩ := hB
  obtain ⟨g, hg⟩ : ∃ g, w.heap.size + 1 = g := ⟨_, rfl⟩
  rw [hg] at hPol ⊢
  have c1 := hid (b1.alloc b1.size (.cells #[.slice (some ⟨g, 0, none⟩) 26 26, .slice (some ⟨g + 1, 0, none⟩) 9 9, .slice (some ⟨g + 1 + 1, 0, none⟩) 3 3] 25))
  have hPol := hid (hPol.below ((Below.refl _ _).alloc (Nat.le_refl _) (.cells #[.slice (some ⟨g, 0, none⟩) 26 26, .slice (some ⟨g + 1, 0, none⟩) 9 9, .slice (some ⟨g + 1 + 1, 0, none⟩) 3 3] 25)))
  have hblk := hid (BlkW.new w1 #[.slice (some ⟨g, 0, none⟩) 26 26, .slice (some ⟨g + 1, 0, none⟩) 9 9, .slice (some ⟨g + 1 + 1, 0, none⟩) 3 3] 25)
  clear b1 hg
  go_wp2_with fail
  obtain ⟨W, hW⟩ : ∃ W, w1.alloc (.cells #[.slice (some ⟨g, 0, none⟩) 26 26, .slice (some ⟨g + 1, 0, none⟩) 9 9, .slice (some ⟨g + 1 + 1, 0, none⟩) 3 3] 25) = W := ⟨_, rfl⟩
  obtain ⟨T, hT1⟩ : ∃ T, w1.heap.size = T := ⟨_, rfl⟩
  rw [hW] at c1 hPol hblk ⊢
  rw [hT1] at hblk ⊢
  have h0 : ∀ V, Below W.heap.size W V → V.cell? ⟨T, 0, none⟩ = some (.slice (some ⟨g, 0, none⟩) 26 26) := fun V hV => (hblk.out.below hV hblk.out.lt).cell 0
  have h1 : ∀ V, Below W.heap.size W V → V.cell? ⟨T, 1, none⟩ = some (.slice (some ⟨g + 1, 0, none⟩) 9 9) := fun V hV => (hblk.out.below hV hblk.out.lt).cell 1
  have h2 : ∀ V, Below W.heap.size W V → V.cell? ⟨T, 2, none⟩ = some (.slice (some ⟨g + 1 + 1, 0, none⟩) 3 3) := fun V hV => (hblk.out.below hV hblk.out.lt).cell 2
  have e0 : Below W.heap.size W W := Below.refl _ _
  clear hW hT1
  refine (k_keep1 g _ (hPol.out.below e0) (url_below HT.out c1.out)).mono ?_
  rintro e v1 ⟨rfl, j1⟩
  have e1 := e0.trans (j1.mono e0.size)
  clear j1
  go_wp2_with fail
  refine (k_keep2 g _ (hPol.out.below e1) (url_below HT.out (c1.out.trans (e1.mono c1.out.size)))).mono ?_
  rintro e v2 ⟨rfl, j2⟩
  have e2 := e1.trans (j2.mono e1.size)
  clear j2
  have e3 := (e2.alloc e2.size (.cells #[.string ⟨#[116, 114]⟩] 9)).alloc (by have := e2.size; simp; omega) (.cells #[.slice (some ⟨v2.heap.size, 0, none⟩) 1 1, .slice none 0 0, .slice none 0 0] 25)
  go_wp2_with fail
  have hS : IsS (v2.alloc (.cells #[.string ⟨#[116, 114]⟩] 9)) (some ⟨v2.heap.size, 0, none⟩) 1 [[116, 114]] := isS_of_cells rfl (heap_alloc_new _ _) rfl
  have hS := hid (hS.below ((Below.refl _ _).alloc (Nat.le_refl _) (.cells #[.slice (some ⟨v2.heap.size, 0, none⟩) 1 1, .slice none 0 0, .slice none 0 0] 25)))
  have hq := BlkW.new (v2.alloc (.cells #[.string ⟨#[116, 114]⟩] 9)) #[.slice (some ⟨v2.heap.size, 0, none⟩) 1 1, .slice none 0 0, .slice none 0 0] 25
  rw [show (v2.alloc (.cells #[.string ⟨#[116, 114]⟩] 9)).heap.size = v2.heap.size + 1 by simp] at hq
  have hq := hid hq
  obtain ⟨W2, hW2⟩ : ∃ W2, (v2.alloc (.cells #[.string ⟨#[116, 114]⟩] 9)).alloc (.cells #[.slice (some ⟨v2.heap.size, 0, none⟩) 1 1, .slice none 0 0, .slice none 0 0] 25) = W2 := ⟨_, rfl⟩
  obtain ⟨q, hqq⟩ : ∃ q, v2.heap.size = q := ⟨_, rfl⟩
  rw [hW2] at e3 hS hq ⊢
  rw [hqq] at hS hq ⊢
  have i0 : ∀ V, Below W2.heap.size W2 V → V.cell? ⟨q + 1, 0, none⟩ = some (.slice (some ⟨q, 0, none⟩) 1 1) := fun V hV => (hq.out.below hV hq.out.lt).cell 0
  have i1 : ∀ V, Below W2.heap.size W2 V → V.cell? ⟨q + 1, 1, none⟩ = some (.slice none 0 0) := fun V hV => (hq.out.below hV hq.out.lt).cell 1
  have i2 : ∀ V, Below W2.heap.size W2 V → V.cell? ⟨q + 1, 2, none⟩ = some (.slice none 0 0) := fun V hV => (hq.out.below hV hq.out.lt).cell 2
  have f0 : Below W2.heap.size W2 W2 := Below.refl _ _
  clear hW2 hqq e0 e1 e2
  refine (k_check1 g _ (hPol.out.below e3) (url_below HT.out (c1.out.trans (e3.mono c1.out.size)))).mono ?_
  rintro e v3 ⟨rfl, j3⟩
  have f3 := f0.trans (j3.mono f0.size)
  have e4 := e3.trans (j3.mono e3.size)
  clear j3
  go_wp2_with fail
  refine (k_check2 q _ (hS.out.below f3) (url_below HT.out (c1.out.trans (e4.mono c1.out.size)))).mono ?_
  rintro e v4 ⟨rfl, j4⟩
  have e5 := e4.trans (j4.mono e4.size)
  clear j4
  go_wp2_with fail
  refine (k_known1 _).mono ?_
  rintro e v5 ⟨rfl, j5⟩
  have e6 := e5.trans (j5.mono e5.size)
  clear j5
  go_wp2_with fail
  refine (k_known2 _).mono ?_
  rintro e v6 ⟨rfl, j6⟩
  have e7 := e6.trans (j6.mono e6.size)
  clear j6
  go_wp2_with fail
  refine (k_has g _ (hPol.out.below e7)).mono ?_
  rintro e v7 ⟨rfl, j7⟩
  have e8 := e7.trans (j7.mono e7.size)
  clear j7
  go_wp2
  go_ret
  exact ⟨rfl, c1.out.trans (e8.mono c1.out.size)⟩
end Go.Proofs.YtpheaepifjcmiaaDoor
