/- The walk of the statement UtfRight. -/
import Derived.Test.YtjliphkpmpcjaaaDoorFrame
namespace Go.Proofs.YtjliphkpmpcjaaaDoor.utfRight
open Go.ChangeShapes Go.WideShapes Go.ChangeAt Go.RowKit Go.Lib
open Go.ChangeMaps (open_string shut_string)
set_option maxRecDepth 100000
set_option linter.unusedVariables false

set_option maxHeartbeats 1000000 in
theorem walk (w : World) (hT : Tabs w) (s : ByteArray) (ws : s.size ≤ maxLen) :
    Calls Tryd.prog 4 #[.string s] w fun e w' => e = .returned (.bool true) ∧ Below w.heap.size w w' := by
  unfold maxLen at ws
  by_cases hs : 20000 < s.size
  · have hd : decide ((20000 : Int) < (s.size : Int)) = true := by simp; omega
    clear hT
    go_enter Tryd.func4, Tryd.ntmps4
    go_wp2
    go_ret
    exact ⟨rfl, Below.refl _ _⟩
  · have hd : decide ((20000 : Int) < (s.size : Int)) = false := by simp; omega
    have HK := hid (known_any w hT)
    have HU := hid fun w => uright_any s w (by omega)
    have HR := hid fun w => rright_any s w (by omega)
    clear hT
    obtain ⟨R, hR⟩ : ∃ R, U8.right s.data.toList = R := ⟨_, rfl⟩
    rw [hR] at HU HR
    clear hR
    go_enter Tryd.func4, Tryd.ntmps4
    go_wp2_with fail
    refine HK.out.mono ?_
    rintro e w1 ⟨rfl, b1⟩
    go_wp2_with fail
    refine (HU.out _).mono ?_
    rintro e w2 ⟨rfl, b2⟩
    go_wp2_with fail
    refine (HR.out _).mono ?_
    rintro e w3 ⟨rfl, b3⟩
    have c2 := b1.trans (b2.mono b1.size)
    have c3 := c2.trans (b3.mono c2.size)
    clear b1 b2 b3 c2
    go_wp2
    go_ret
    exact ⟨ret_bool' (by simp), c3⟩
end Go.Proofs.YtjliphkpmpcjaaaDoor.utfRight
