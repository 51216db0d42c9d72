/- The walk of the statement EntMarks. -/
import Derived.Test.YthfaogodiefefaaDoorKnownE
import Derived.Test.YthfaogodiefefaaDoorRefMark
namespace Go.Proofs.YthfaogodiefefaaDoor.entMarks
open Go.ChangeShapes Go.WideShapes Go.ChangeAt Go.RowKit Go.Lib
open Go.ChangeMaps (open_string shut_string)
set_option maxRecDepth 100000
set_option linter.unusedVariables false

set_option maxHeartbeats 1000000 in
theorem walk (w : World) (hT : EntW w) (s : ByteArray) (ws : s.size ≤ maxLen) :
    Calls Tryd.prog 6 #[.string s] w fun e w' => e = .returned (.bool true) ∧ Below w.heap.size w w' := by
  unfold maxLen at ws
  by_cases hs : 3000 < s.size
  · have hd : decide ((3000 : Int) < (s.size : Int)) = true := by simp; omega
    clear hT
    go_enter Tryd.func6, Tryd.ntmps6
    go_wp2
    go_ret
    exact ⟨rfl, Below.refl _ _⟩
  · have hd : decide ((3000 : Int) < (s.size : Int)) = false := by simp; omega
    have HT := hid hT
    have H1 := fun w => mark_any s w (by omega)
    have H2 := fun w => rmark_any s w (by omega)
    unfold markV at H1
    unfold rmarkV at H2
    obtain ⟨i, n, hin⟩ : ∃ i n, Ent.mark s.data.toList = (i, n) := ⟨_, _, rfl⟩
    rw [hin] at H1 H2
    simp only at H1 H2
    have H1 := hid H1
    have H2 := hid H2
    clear hT hin
    go_enter Tryd.func6, Tryd.ntmps6
    go_wp2_with fail
    refine (H1.out _).mono ?_
    rintro e w1 ⟨rfl, b1⟩
    go_wp2_with fail
    refine (H2.out _).mono ?_
    rintro e w2 ⟨rfl, b2⟩
    have c2 := b1.trans (b2.mono b1.size)
    clear b1 b2
    go_wp2_with fail
    refine (known3_any _ (ent_below HT.out c2)).mono ?_
    rintro e w3 ⟨rfl, b3⟩
    have c3 := c2.trans (b3.mono c2.size)
    clear c2 b3
    go_wp2
    go_ret
    exact ⟨ret_bool' (by simp), c3⟩
end Go.Proofs.YthfaogodiefefaaDoor.entMarks
