/- Walks: the statements' head of layer 4, 'known': the chapter's example. -/
import Derived.Test.YtoipadpgpnkdkaaDoorFrameU
import Derived.Test.YtoipadpgpnkdkaaDoorSafe
import Derived.Test.YtoipadpgpnkdkaaDoorEscape
namespace Go.Proofs.YtoipadpgpnkdkaaDoor
open Go.RowKit Go.Lib
set_option maxRecDepth 100000
set_option linter.unusedVariables false

theorem k_sch1 (w : World) (hT : UrlW w) : Calls Tryd.prog 12 #[.string ⟨#[106, 97, 118, 97, 10, 115, 99, 114, 105, 112, 116, 58, 120]⟩] w fun e w' => e = .returned (.tuple #[.string ⟨#[106, 97, 118, 97, 115, 99, 114, 105, 112, 116]⟩, .bool true]) ∧ Below w.heap.size w w' :=
  (scheme_any _ w (by decide) hT).mono fun e w' ⟨h1, h2⟩ => ⟨by rw [h1, schemeV_some (show Url.scheme (⟨#[106, 97, 118, 97, 10, 115, 99, 114, 105, 112, 116, 58, 120]⟩ : ByteArray).data.toList = some [106, 97, 118, 97, 115, 99, 114, 105, 112, 116] by decide +kernel)], h2⟩
theorem k_sch2 (w : World) (hT : UrlW w) : Calls Tryd.prog 12 #[.string ⟨#[47, 97, 58, 98]⟩] w fun e w' => e = .returned (.tuple #[.string ⟨#[]⟩, .bool false]) ∧ Below w.heap.size w w' :=
  (scheme_any _ w (by decide) hT).mono fun e w' ⟨h1, h2⟩ => ⟨by rw [h1, schemeV_none (show Url.scheme (⟨#[47, 97, 58, 98]⟩ : ByteArray).data.toList = none by decide +kernel)], h2⟩
theorem k_esc (w : World) : Calls Tryd.prog 14 #[.string ⟨#[97, 32, 195, 169, 34, 91]⟩] w fun e w' => e = .returned (.string ⟨#[97, 37, 50, 48, 37, 67, 51, 37, 65, 57, 37, 50, 50, 37, 53, 66]⟩) ∧ Below w.heap.size w w' :=
  (escape_any _ w (by decide)).mono fun e w' ⟨h1, h2⟩ => ⟨by rw [h1, show Url.esc (⟨#[97, 32, 195, 169, 34, 91]⟩ : ByteArray).data.toList = [97, 37, 50, 48, 37, 67, 51, 37, 65, 57, 37, 50, 50, 37, 53, 66] by decide +kernel], h2⟩
theorem isS_nil (w : World) : IsS w none 0 [] := ⟨rfl, .inl rfl⟩
theorem k_safe1 (w : World) (hT : UrlW w) : Calls Tryd.prog 16 #[.string ⟨#[47, 47, 97]⟩, .slice none 0 0] w fun e w' => e = .returned (.bool true) ∧ Below w.heap.size w w' :=
  (safe_any _ none 0 0 [] w (isS_nil w) (by decide) (by omega) hT).mono fun e w' ⟨h1, h2⟩ => ⟨by rw [h1, show Url.safe (⟨#[47, 47, 97]⟩ : ByteArray).data.toList [] = true by decide +kernel], h2⟩
theorem k_safe2 (w : World) (hT : UrlW w) : Calls Tryd.prog 16 #[.string ⟨#[120, 58]⟩, .slice none 0 0] w fun e w' => e = .returned (.bool false) ∧ Below w.heap.size w w' :=
  (safe_any _ none 0 0 [] w (isS_nil w) (by decide) (by omega) hT).mono fun e w' ⟨h1, h2⟩ => ⟨by rw [h1, show Url.safe (⟨#[120, 58]⟩ : ByteArray).data.toList [] = false by decide +kernel], h2⟩

set_option maxHeartbeats 1000000 in
theorem known4_any (w : World) (hT : UrlW w) : Calls Tryd.prog 9 #[] w fun e w' => e = .returned (.bool true) ∧ Below w.heap.size w w' := by
  have HT := hid hT
  clear hT
  go_enter Tryd.func9, Tryd.ntmps9
  go_wp2_with fail
  refine (k_sch1 _ HT.out).mono ?_
  rintro e w1 ⟨rfl, b1⟩
  go_wp2_with fail
  refine (k_sch2 _ (url_below HT.out b1)).mono ?_
  rintro e w2 ⟨rfl, b2⟩
  have c2 := b1.trans (b2.mono b1.size)
  clear b1 b2
  go_wp2_with fail
  refine (k_esc _).mono ?_
  rintro e w3 ⟨rfl, b3⟩
  have c3 := c2.trans (b3.mono c2.size)
  clear c2 b3
  go_wp2_with fail
  refine (k_safe1 _ (url_below HT.out c3)).mono ?_
  rintro e w4 ⟨rfl, b4⟩
  have c4 := c3.trans (b4.mono c3.size)
  clear c3 b4
  go_wp2_with fail
  refine (k_safe2 _ (url_below HT.out c4)).mono ?_
  rintro e w5 ⟨rfl, b5⟩
  have c5 := c4.trans (b5.mono c4.size)
  clear c4 b5
  go_wp2
  go_ret
  exact ⟨rfl, c5⟩
end Go.Proofs.YtoipadpgpnkdkaaDoor
