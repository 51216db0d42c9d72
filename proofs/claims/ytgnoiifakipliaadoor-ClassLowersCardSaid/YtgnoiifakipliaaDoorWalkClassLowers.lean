/- The walk of the statement ClassLowers. -/
import Derived.Test.YtgnoiifakipliaaDoorKnownC
import Derived.Test.YtgnoiifakipliaaDoorRefLower
namespace Go.Proofs.YtgnoiifakipliaaDoor.classLowers
open Go.ChangeShapes Go.WideShapes Go.ChangeAt Go.RowKit Go.Lib
open Go.ChangeMaps (open_string shut_string)
set_option maxRecDepth 100000
set_option linter.unusedVariables false

set_option maxHeartbeats 1000000 in
theorem walk (w : World) (hT : AllTabs w) (s : ByteArray) (ws : s.size ≤ maxLen) :
    Calls Tryd.prog 6 #[.string s] w fun e w' => e = .returned (.bool true) ∧ Below w.heap.size w w' := by
  unfold maxLen at ws
  by_cases hs : 5000 < s.size
  · have hd : decide ((5000 : Int) < (s.size : Int)) = true := by simp; omega
    clear hT
    go_enter Tryd.func6, Tryd.ntmps6
    go_wp2
    go_ret
    exact ⟨rfl, Below.refl _ _⟩
  · have hd : decide ((5000 : Int) < (s.size : Int)) = false := by simp; omega
    have HT := hid hT
    have H1 := hid fun w => clower_any s w (by omega)
    have H2 := hid fun w => rlower_any s w (by omega)
    obtain ⟨z, hz⟩ : ∃ z : ByteArray, z = ⟨(lowL s.data.toList).toArray⟩ := ⟨_, rfl⟩
    have hzl : z.data.toList = lowL s.data.toList := by rw [hz]
    have hzs : z.size = s.size := by rw [← size_list, hzl, lowL_len, size_list]
    have H3 := fun w => clower_any z w (by omega)
    rw [hzl, lowL_low] at H3
    rw [← hz] at H1 H2 H3
    have H3 := hid H3
    clear hT hz hzl
    go_enter Tryd.func6, Tryd.ntmps6
    go_wp2_with fail
    refine (H1.out _).mono ?_
    rintro e w1 ⟨rfl, b1⟩
    go_wp2_with fail
    refine (known2_any _ (all_below HT.out b1)).mono ?_
    rintro e w2 ⟨rfl, b2⟩
    go_wp2_with fail
    refine (H2.out _).mono ?_
    rintro e w3 ⟨rfl, b3⟩
    go_wp2_with fail
    refine (H3.out _).mono ?_
    rintro e w4 ⟨rfl, b4⟩
    have c2 := b1.trans (b2.mono b1.size)
    have c3 := c2.trans (b3.mono c2.size)
    have c4 := c3.trans (b4.mono c3.size)
    clear b1 b2 b3 b4 c2 c3
    go_wp2
    go_ret
    exact ⟨ret_bool' (by simp), c4⟩
end Go.Proofs.YtgnoiifakipliaaDoor.classLowers
