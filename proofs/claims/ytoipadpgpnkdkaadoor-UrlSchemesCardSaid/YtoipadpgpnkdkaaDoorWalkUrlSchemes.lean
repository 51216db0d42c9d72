/- The walk of the statement UrlSchemes. -/
import Derived.Test.YtoipadpgpnkdkaaDoorKnownU
import Derived.Test.YtoipadpgpnkdkaaDoorRefScheme
import Derived.Test.YtoipadpgpnkdkaaDoorRefSafe
namespace Go.Proofs.YtoipadpgpnkdkaaDoor.urlSchemes
open Go.ChangeShapes Go.WideShapes Go.ChangeAt Go.RowKit Go.Lib
open Go.ChangeMaps (open_string shut_string)
set_option maxRecDepth 100000
set_option linter.unusedVariables false

theorem schemeV_eq (o : Option (List UInt8)) : schemeV o = .tuple #[.string ⟨(o.getD []).toArray⟩, .bool o.isSome] := by cases o <;> rfl
set_option maxHeartbeats 1000000 in
theorem walk (w : World) (hT : UrlW w) (s : ByteArray) (ws : s.size ≤ maxLen) :
    Calls Tryd.prog 4 #[.string s] w fun e w' => e = .returned (.bool true) ∧ Below w.heap.size w w' := by
  unfold maxLen at ws
  have HT := hid hT
  clear hT
  by_cases hs : 3000 < s.size
  · have hd : decide ((3000 : Int) < (s.size : Int)) = true := by simp; omega
    go_enter Tryd.func4, Tryd.ntmps4
    go_wp2
    go_ret
    exact ⟨rfl, Below.refl _ _⟩
  · have hd : decide ((3000 : Int) < (s.size : Int)) = false := by simp; omega
    have H1 := fun w h => scheme_any s w (by omega) h
    have H2 := fun w => rscheme_any s w (by omega)
    rw [schemeV_eq] at H1
    rw [rschemeV_eq] at H2
    obtain ⟨x, hx⟩ : ∃ x, (⟨((Url.scheme s.data.toList).getD []).toArray⟩ : ByteArray) = x := ⟨_, rfl⟩
    obtain ⟨is, his⟩ : ∃ is, (Url.scheme s.data.toList).isSome = is := ⟨_, rfl⟩
    rw [hx, his] at H1 H2
    have H1 := hid H1
    have H2 := hid H2
    clear hx his
    go_enter Tryd.func4, Tryd.ntmps4
    go_wp2_with fail
    refine (H1.out _ HT.out).mono ?_
    rintro e w1 ⟨rfl, b1⟩
    go_wp2_with fail
    refine (H2.out _).mono ?_
    rintro e w2 ⟨rfl, b2⟩
    have c2 := b1.trans (b2.mono b1.size)
    clear b1 b2
    go_wp2_with fail
    refine (known4_any _ (url_below HT.out c2)).mono ?_
    rintro e w3 ⟨rfl, b3⟩
    have c3 := c2.trans (b3.mono c2.size)
    clear c2 b3
    go_wp2
    go_ret
    exact ⟨ret_bool' (by simp), c3⟩
end Go.Proofs.YtoipadpgpnkdkaaDoor.urlSchemes
