/- Walks: the statements' head of layer 3, 'known': the chapter's examples. -/
import Derived.Test.YthfaogodiefefaaDoorFrameE
import Derived.Test.YthfaogodiefefaaDoorMark
import Derived.Test.YthfaogodiefefaaDoorDecode
namespace Go.Proofs.YthfaogodiefefaaDoor
open Go.RowKit Go.Lib
set_option maxRecDepth 100000
set_option linter.unusedVariables false

theorem k_dec1 (w : World) (hT : EntW w) : Calls Tryd.prog 15 #[.string ⟨#[38, 110, 111, 116, 105, 116, 59, 32, 38, 110, 111, 116, 105, 110, 59, 32, 38, 35, 120, 52, 49, 32, 38, 35, 54, 53, 59, 38, 97, 109, 112]⟩, .bool false] w fun e w' => e = .returned (.string ⟨#[194, 172, 105, 116, 59, 32, 226, 136, 137, 32, 65, 32, 65, 38]⟩) ∧ Below w.heap.size w w' :=
  (decode_any _ false w (by decide) hT).mono fun e w' ⟨h1, h2⟩ => ⟨by rw [h1, show Ent.decode false (⟨#[38, 110, 111, 116, 105, 116, 59, 32, 38, 110, 111, 116, 105, 110, 59, 32, 38, 35, 120, 52, 49, 32, 38, 35, 54, 53, 59, 38, 97, 109, 112]⟩ : ByteArray).data.toList = [194, 172, 105, 116, 59, 32, 226, 136, 137, 32, 65, 32, 65, 38] by decide +kernel], h2⟩
theorem k_dec2 (w : World) (hT : EntW w) : Calls Tryd.prog 15 #[.string ⟨#[97, 38, 99, 111, 112, 121, 61, 49, 38, 99, 111, 112, 121, 59, 38, 108, 116]⟩, .bool true] w fun e w' => e = .returned (.string ⟨#[97, 38, 99, 111, 112, 121, 61, 49, 194, 169, 60]⟩) ∧ Below w.heap.size w w' :=
  (decode_any _ true w (by decide) hT).mono fun e w' ⟨h1, h2⟩ => ⟨by rw [h1, show Ent.decode true (⟨#[97, 38, 99, 111, 112, 121, 61, 49, 38, 99, 111, 112, 121, 59, 38, 108, 116]⟩ : ByteArray).data.toList = [97, 38, 99, 111, 112, 121, 61, 49, 194, 169, 60] by decide +kernel], h2⟩
theorem k_mark1 (w : World) : Calls Tryd.prog 17 #[.string ⟨#[38, 99, 111, 112, 121, 59, 120]⟩] w fun e w' => e = .returned (.tuple #[.string ⟨#[194, 169]⟩, .int .i64 6]) ∧ Below w.heap.size w w' :=
  (mark_any _ w (by decide)).mono fun e w' ⟨h1, h2⟩ => ⟨by rw [h1, markV_eq (show Ent.mark (⟨#[38, 99, 111, 112, 121, 59, 120]⟩ : ByteArray).data.toList = ([194, 169], 6) by decide +kernel)]; rfl, h2⟩
theorem k_mark2 (w : World) : Calls Tryd.prog 17 #[.string ⟨#[38, 99, 111, 112, 121]⟩] w fun e w' => e = .returned (.tuple #[.string ⟨#[]⟩, .int .i64 0]) ∧ Below w.heap.size w w' :=
  (mark_any _ w (by decide)).mono fun e w' ⟨h1, h2⟩ => ⟨by rw [h1, markV_eq (show Ent.mark (⟨#[38, 99, 111, 112, 121]⟩ : ByteArray).data.toList = ([], 0) by decide +kernel)]; rfl, h2⟩
theorem k_num (w : World) (hT : EntW w) : Calls Tryd.prog 13 #[.int .i64 128] w fun e w' => e = .returned (.int .i32 8364) ∧ w = w' :=
  (number_any 128 w hT.1).mono fun e w' ⟨h1, h2⟩ => ⟨by rw [h1, show Ent.numZ 128 = 8364 by decide +kernel], h2⟩

set_option maxHeartbeats 1000000 in
theorem known3_any (w : World) (hT : EntW w) : Calls Tryd.prog 12 #[] w fun e w' => e = .returned (.bool true) ∧ Below w.heap.size w w' := by
  have HT := hid hT
  clear hT
  go_enter Tryd.func12, Tryd.ntmps12
  go_wp2_with fail
  refine (k_dec1 _ HT.out).mono ?_
  rintro e w1 ⟨rfl, b1⟩
  go_wp2_with fail
  refine (k_dec2 _ (ent_below HT.out b1)).mono ?_
  rintro e w2 ⟨rfl, b2⟩
  have c2 := b1.trans (b2.mono b1.size)
  clear b1 b2
  go_wp2_with fail
  refine (k_mark1 _).mono ?_
  rintro e w3 ⟨rfl, b3⟩
  have c3 := c2.trans (b3.mono c2.size)
  clear c2 b3
  go_wp2_with fail
  refine (k_mark2 _).mono ?_
  rintro e w4 ⟨rfl, b4⟩
  have c4 := c3.trans (b4.mono c3.size)
  clear c3 b4
  go_wp2_with fail
  refine (k_num _ (ent_below HT.out c4)).mono ?_
  rintro e w5 ⟨rfl, rfl⟩
  go_wp2
  go_ret
  exact ⟨rfl, c4⟩
end Go.Proofs.YthfaogodiefefaaDoor
