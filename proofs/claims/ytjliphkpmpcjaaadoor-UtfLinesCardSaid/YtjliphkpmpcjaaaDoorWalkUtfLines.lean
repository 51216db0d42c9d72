/- The walk of the statement UtfLines. -/
import Derived.Test.YtjliphkpmpcjaaaDoorFrame
namespace Go.Proofs.YtjliphkpmpcjaaaDoor.utfLines
open Go.ChangeShapes Go.WideShapes Go.ChangeAt Go.RowKit Go.Lib
open Go.ChangeMaps (open_string shut_string)
set_option maxRecDepth 100000
set_option linter.unusedVariables false

set_option maxHeartbeats 1000000 in
theorem walk (w : World) (hT : Tabs w) (s : ByteArray) (ws : s.size ≤ maxLen) :
    Calls Tryd.prog 5 #[.string s] w fun e w' => e = .returned (.bool true) ∧ Below w.heap.size w w' := by
  unfold maxLen at ws
  by_cases hs : 20000 < s.size
  · have hd : decide ((20000 : Int) < (s.size : Int)) = true := by simp; omega
    clear hT
    go_enter Tryd.func5, Tryd.ntmps5
    go_wp2
    go_ret
    exact ⟨rfl, Below.refl _ _⟩
  · have hd : decide ((20000 : Int) < (s.size : Int)) = false := by simp; omega
    have HK := hid (known_any w hT)
    have HU := hid fun w => unl_any s w (by omega)
    have HR := hid fun w => rnl_any s w (by omega)
    have HL := hid fun w => ulines_any s w (by omega)
    have HM := hid fun w => rlines_any s w (by omega)
    clear hT
    obtain ⟨R, hR⟩ : ∃ R, (⟨(Nl.nl s.data.toList).toArray⟩ : ByteArray) = R := ⟨_, rfl⟩
    rw [hR] at HU HR
    clear hR
    obtain ⟨ls, hls⟩ : ∃ ls, Nl.lines s.data.toList = ls := ⟨_, rfl⟩
    rw [hls] at HL HM
    clear hls
    go_enter Tryd.func5, Tryd.ntmps5
    go_wp2_with fail
    refine HK.out.mono ?_
    rintro e w1 ⟨rfl, b1⟩
    go_wp2_with fail
    refine (HU.out _).mono ?_
    rintro e w2 ⟨rfl, b2⟩
    go_wp2_with fail
    refine (HR.out _).mono ?_
    rintro e w3 ⟨rfl, b3⟩
    have c2 := b1.trans (b2.mono b1.size)
    have c3 := c2.trans (b3.mono c2.size)
    clear b1 b2 b3 c2
    go_wp2_with fail
    refine (HL.out _).mono ?_
    rintro e w4 ⟨v4, rfl, o4, b4⟩
    obtain ⟨a4, cap4, rfl, i4, g4, m4⟩ := own_isS o4
    clear o4
    go_wp2_with fail
    refine (HM.out _).mono ?_
    rintro e w5 ⟨v5, rfl, o5, b5⟩
    obtain ⟨a5, cap5, rfl, i5, g5, m5⟩ := own_isS o5
    have i45 := i4.below b5
    have c4 := c3.trans (b4.mono c3.size)
    have c5 := c4.trans (b5.mono c4.size)
    unfold maxLen at m4 m5
    have HS := hid (sameStrings_any a4 a5 _ _ cap4 cap5 ls ls w5 i45 i5 g4 g5 m4 m5)
    clear o5 i4 i5 i45 b4 b5 c3 c4
    go_wp2_with fail
    refine HS.out.mono ?_
    rintro e w6 ⟨rfl, b6⟩
    have hls : (ls == ls) = true := by simp
    go_wp2
    go_ret
    exact ⟨ret_bool' (by simp), c5.trans (b6.mono c5.size)⟩
end Go.Proofs.YtjliphkpmpcjaaaDoor.utfLines
