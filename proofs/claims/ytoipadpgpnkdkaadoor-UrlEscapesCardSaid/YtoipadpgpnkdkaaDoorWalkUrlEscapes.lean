/- The walk of the statement UrlEscapes. -/
import Derived.Test.YtoipadpgpnkdkaaDoorKnownU
import Derived.Test.YtoipadpgpnkdkaaDoorRefEscape
namespace Go.Proofs.YtoipadpgpnkdkaaDoor.urlEscapes
open Go.ChangeShapes Go.WideShapes Go.ChangeAt Go.RowKit Go.Lib
open Go.ChangeMaps (open_string shut_string)
set_option maxRecDepth 100000
set_option linter.unusedVariables false

set_option maxHeartbeats 1000000 in
theorem walk (w : World) (hT : UrlW w) (s : ByteArray) (ws : s.size ≤ maxLen) :
    Calls Tryd.prog 5 #[.string s] w fun e w' => e = .returned (.bool true) ∧ Below w.heap.size w w' := by
  unfold maxLen at ws
  have HT := hid hT
  clear hT
  by_cases hs : 3000 < s.size
  · have hd : decide ((3000 : Int) < (s.size : Int)) = true := by simp; omega
    go_enter Tryd.func5, Tryd.ntmps5
    go_wp2
    go_ret
    exact ⟨rfl, Below.refl _ _⟩
  · have hd : decide ((3000 : Int) < (s.size : Int)) = false := by simp; omega
    have H1 := fun w => escape_any s w (by omega)
    have H2 := fun w => rescape_any s w (by omega)
    have hle := Url.esc_le s.data.toList
    rw [size_list] at hle
    obtain ⟨t, ht⟩ : ∃ t : ByteArray, t = ⟨(Url.esc s.data.toList).toArray⟩ := ⟨_, rfl⟩
    have htl : t.data.toList = Url.esc s.data.toList := by rw [ht]
    have hts : t.size ≤ 9000 := by rw [← size_list, htl]; omega
    have H3 := fun w => escape_any t w (by omega)
    rw [htl, Url.esc_esc] at H3
    rw [← ht] at H1 H2 H3
    have H1 := hid H1
    have H2 := hid H2
    have H3 := hid H3
    clear ht htl hle
    go_enter Tryd.func5, Tryd.ntmps5
    go_wp2_with fail
    refine (H1.out _).mono ?_
    rintro e w1 ⟨rfl, b1⟩
    go_wp2_with fail
    refine (known4_any _ (url_below HT.out b1)).mono ?_
    rintro e w2 ⟨rfl, b2⟩
    have c2 := b1.trans (b2.mono b1.size)
    clear b1 b2
    go_wp2_with fail
    refine (H2.out _).mono ?_
    rintro e w3 ⟨rfl, b3⟩
    have c3 := c2.trans (b3.mono c2.size)
    clear c2 b3
    go_wp2_with fail
    refine (H3.out _).mono ?_
    rintro e w4 ⟨rfl, b4⟩
    have c4 := c3.trans (b4.mono c3.size)
    clear c3 b4
    go_wp2
    go_ret
    exact ⟨ret_bool' (by simp), c4⟩
end Go.Proofs.YtoipadpgpnkdkaaDoor.urlEscapes
