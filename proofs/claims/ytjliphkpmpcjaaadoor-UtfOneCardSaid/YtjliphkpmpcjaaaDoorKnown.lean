/- Walks: the statements' head, 'known': the chapter's example. -/
import Derived.Test.YtjliphkpmpcjaaaDoorUlines
namespace Go.Proofs.YtjliphkpmpcjaaaDoor
open Go.RowKit Go.Lib
set_option maxRecDepth 100000
set_option linter.unusedVariables false

theorem k_text (w : World) (C : Array Value) (hC : C = (byteCells [97, 0, 255, 98]).toArray) (hT : Tabs w) :
    Calls Tryd.prog 10 #[.slice (some ⟨w.heap.size, 0, none⟩) 4 4] (w.alloc (.cells C 5 (0, 0))) fun e w' => e = .returned (.string ⟨#[97, 239, 191, 189, 239, 191, 189, 98]⟩) ∧ Below w.heap.size w w' := by
  have hB : IsB (w.alloc (.cells C 5 (0, 0))) (some ⟨w.heap.size, 0, none⟩) 4 [97, 0, 255, 98] := ⟨rfl, .inr ⟨w.heap.size, 0, rfl, fun i hi => by
    have := new_bytes w [97, 0, 255, 98] C (0, 0) hC i hi
    rwa [addr_add] at this⟩⟩
  have hb0 := (Below.refl w.heap.size w).alloc (Nat.le_refl _) (.cells C 5 (0, 0))
  refine (utext_any _ 4 4 _ _ hB (by omega) (Utf8Tabs_below hT hb0)).mono fun e w' ⟨h1, h2⟩ => ⟨?_, hb0.trans (h2.mono (by simp))⟩
  rw [h1]
  have : U8.text [97, 0, 255, 98] = [97, 239, 191, 189, 239, 191, 189, 98] := by decide
  rw [this]
theorem k_lines (w : World) :
    Calls Tryd.prog 19 #[.string ⟨#[97, 13, 10, 10, 98]⟩] w fun e w' => (∃ a cap, e = .returned (.slice a 3 cap)) ∧ Below w.heap.size w w' := by
  refine (ulines_any _ w (by decide)).mono fun e w' ⟨v, h1, h2, h3⟩ => ⟨?_, h3⟩
  obtain ⟨a, cap, hv, _⟩ := own_isS h2
  have : (Nl.lines (⟨#[97, 13, 10, 10, 98]⟩ : ByteArray).data.toList).length = 3 := by decide
  rw [this] at hv
  exact ⟨a, cap, by rw [h1, hv]⟩
theorem k_right (w : World) : Calls Tryd.prog 14 #[.string ⟨#[97]⟩] w fun e w' => e = .returned (.bool true) ∧ Below w.heap.size w w' :=
  (uright_any _ w (by decide)).mono fun e w' ⟨h1, h2⟩ => ⟨by rw [h1, show U8.right (⟨#[97]⟩ : ByteArray).data.toList = true by decide], h2⟩
theorem k_right0 (w : World) : Calls Tryd.prog 14 #[.string ⟨#[0]⟩] w fun e w' => e = .returned (.bool false) ∧ Below w.heap.size w w' :=
  (uright_any _ w (by decide)).mono fun e w' ⟨h1, h2⟩ => ⟨by rw [h1, show U8.right (⟨#[0]⟩ : ByteArray).data.toList = false by decide], h2⟩
theorem k_nl (w : World) : Calls Tryd.prog 16 #[.string ⟨#[97, 13, 98]⟩] w fun e w' => e = .returned (.string ⟨#[97, 10, 98]⟩) ∧ Below w.heap.size w w' :=
  (unl_any _ w (by decide)).mono fun e w' ⟨h1, h2⟩ => ⟨by rw [h1, show Nl.nl (⟨#[97, 13, 98]⟩ : ByteArray).data.toList = [97, 10, 98] by decide], h2⟩

set_option maxHeartbeats 1000000 in
theorem known_any (w : World) (hT : Tabs w) : Calls Tryd.prog 11 #[] w fun e w' => e = .returned (.bool true) ∧ Below w.heap.size w w' := by
  have HT := hid hT
  clear hT
  go_enter Tryd.func11, Tryd.ntmps11
  go_wp2_with fail
  refine (k_text w _ rfl HT.out).mono ?_
  rintro e w1 ⟨rfl, b1⟩
  go_wp2_with fail
  refine (k_lines _).mono ?_
  rintro e w2 ⟨⟨a, cap, rfl⟩, b2⟩
  go_wp2_with fail
  refine (k_right _).mono ?_
  rintro e w3 ⟨rfl, b3⟩
  go_wp2_with fail
  refine (k_right0 _).mono ?_
  rintro e w4 ⟨rfl, b4⟩
  go_wp2_with fail
  refine (k_nl _).mono ?_
  rintro e w5 ⟨rfl, b5⟩
  go_wp2
  go_ret
  have c2 := b1.trans (b2.mono b1.size)
  have c3 := c2.trans (b3.mono c2.size)
  have c4 := c3.trans (b4.mono c3.size)
  exact ⟨rfl, c4.trans (b5.mono c4.size)⟩
end Go.Proofs.YtjliphkpmpcjaaaDoor
