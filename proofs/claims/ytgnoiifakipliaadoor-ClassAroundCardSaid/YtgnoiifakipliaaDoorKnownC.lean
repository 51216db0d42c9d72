/- Walks: the statements' head of layer 2, 'known': the chapter's example. -/
import Derived.Test.YtgnoiifakipliaaDoorFrameC
import Derived.Test.YtgnoiifakipliaaDoorFold
import Derived.Test.YtgnoiifakipliaaDoorLower
namespace Go.Proofs.YtgnoiifakipliaaDoor
open Go.RowKit Go.Lib
set_option maxRecDepth 100000
set_option linter.unusedVariables false

abbrev AllTabs (w : World) : Prop := Tabs w ∧ PunctTab w
theorem punct_below {w w' : World} (h : PunctTab w) (hb : Below w.heap.size w w') : PunctTab w' := fun j hj =>
  (hb.cell (p := ⟨0, j, none⟩) (World.block_lt_of_cell? _ _ (h j hj))).trans (h j hj)
theorem all_below {w w' : World} (h : AllTabs w) (hb : Below w.heap.size w w') : AllTabs w' := ⟨Utf8Tabs_below h.1 hb, punct_below h.2 hb⟩
theorem k_fold (w : World) : Calls Tryd.prog 22 #[.string ⟨#[83, 116, 114, 97, 195, 159, 101, 32, 206, 145, 206, 147, 206, 169]⟩] w fun e w' => e = .returned (.string ⟨#[115, 116, 114, 97, 115, 115, 101, 32, 206, 177, 206, 179, 207, 137]⟩) ∧ Below w.heap.size w w' :=
  (cfold_any _ w (by decide) (by decide +kernel)).mono fun e w' ⟨h1, h2⟩ => ⟨by rw [h1, show foldL (⟨#[83, 116, 114, 97, 195, 159, 101, 32, 206, 145, 206, 147, 206, 169]⟩ : ByteArray).data.toList = [115, 116, 114, 97, 115, 115, 101, 32, 206, 177, 206, 179, 207, 137] by decide +kernel], h2⟩
theorem k_prev (w : World) (hT : Tabs w) : Calls Tryd.prog 27 #[.string ⟨#[195, 169]⟩, .int .i64 2] w fun e w' => e = .returned (.int .i32 233) ∧ Below w.heap.size w w' :=
  (cprev_any _ 2 w (by decide) hT (fun _ _ => by decide +kernel)).mono fun e w' ⟨h1, h2⟩ => ⟨by rw [h1, show prevN (⟨#[195, 169]⟩ : ByteArray).data.toList 2 = 233 by decide +kernel], h2⟩
theorem k_lower (w : World) : Calls Tryd.prog 24 #[.string ⟨#[195, 128, 66]⟩] w fun e w' => e = .returned (.string ⟨#[195, 128, 98]⟩) ∧ Below w.heap.size w w' :=
  (clower_any _ w (by decide)).mono fun e w' ⟨h1, h2⟩ => ⟨by rw [h1, show lowL (⟨#[195, 128, 66]⟩ : ByteArray).data.toList = [195, 128, 98] by decide +kernel], h2⟩
theorem k_hexg (w : World) : Calls Tryd.prog 15 #[.int .u8 103] w fun e w' => e = .returned (.int .i64 (-1)) ∧ w = w' := chex_any 103 (by omega) w
theorem k_hexF (w : World) : Calls Tryd.prog 15 #[.int .u8 70] w fun e w' => e = .returned (.int .i64 15) ∧ w = w' := chex_any 70 (by omega) w
theorem k_blank (w : World) : Calls Tryd.prog 17 #[.int .i32 160] w fun e w' => e = .returned (.bool true) ∧ w = w' := cblank_any 160 w
theorem k_euro (w : World) (h : PunctTab w) : Calls Tryd.prog 19 #[.int .i32 8364] w fun e w' => e = .returned (.bool true) ∧ w = w' :=
  (cpunct_any 8364 w h).mono fun e w' ⟨h1, h2⟩ => ⟨by rw [h1, show punctR 8364 = true by decide +kernel], h2⟩
theorem k_a (w : World) (h : PunctTab w) : Calls Tryd.prog 19 #[.int .i32 97] w fun e w' => e = .returned (.bool false) ∧ w = w' :=
  (cpunct_any 97 w h).mono fun e w' ⟨h1, h2⟩ => ⟨by rw [h1, show punctR 97 = false by decide +kernel], h2⟩

set_option maxHeartbeats 1000000 in
theorem known2_any (w : World) (hT : AllTabs w) : Calls Tryd.prog 8 #[] w fun e w' => e = .returned (.bool true) ∧ Below w.heap.size w w' := by
  have HT := hid hT
  clear hT
  go_enter Tryd.func8, Tryd.ntmps8
  go_wp2_with fail
  refine (k_fold _).mono ?_
  rintro e w1 ⟨rfl, b1⟩
  have T1 := hid (all_below HT.out b1)
  go_wp2_with fail
  refine (k_euro _ T1.out.2).mono ?_
  rintro e w2 ⟨rfl, rfl⟩
  go_wp2_with fail
  refine (k_a _ T1.out.2).mono ?_
  rintro e w2 ⟨rfl, rfl⟩
  go_wp2_with fail
  refine (k_blank _).mono ?_
  rintro e w2 ⟨rfl, rfl⟩
  go_wp2_with fail
  refine (k_prev _ T1.out.1).mono ?_
  rintro e w2 ⟨rfl, b2⟩
  go_wp2_with fail
  refine (k_hexg _).mono ?_
  rintro e w3 ⟨rfl, rfl⟩
  go_wp2_with fail
  refine (k_hexF _).mono ?_
  rintro e w3 ⟨rfl, rfl⟩
  go_wp2_with fail
  refine (k_lower _).mono ?_
  rintro e w3 ⟨rfl, b3⟩
  go_wp2
  go_ret
  have c2 := b1.trans (b2.mono b1.size)
  exact ⟨rfl, c2.trans (b3.mono c2.size)⟩
end Go.Proofs.YtgnoiifakipliaaDoor
