/- The walk of the statement UrlSafe. -/
import Derived.Test.YtoipadpgpnkdkaaDoorKnownU
import Derived.Test.YtoipadpgpnkdkaaDoorRefSafe
import Derived.Test.YtoipadpgpnkdkaaDoorArgs
namespace Go.Proofs.YtoipadpgpnkdkaaDoor.urlSafe
open Go.ChangeShapes Go.WideShapes Go.ChangeAt Go.RowKit Go.Lib
open Go.ChangeMaps (open_string shut_string)
set_option maxRecDepth 100000
set_option linter.unusedVariables false

set_option maxHeartbeats 1000000 in
theorem walk (w : World) (hT : UrlW w) (s : ByteArray) (ws : s.size ≤ maxLen) (a : Option Addr) (len cap : Nat) (ls : List (List UInt8)) (hI : IsS w a len ls) (hlc : len ≤ cap) (hm : cap ≤ maxLen) (hn : a = none → cap = 0) :
    Calls Tryd.prog 6 #[.string s, .slice a len cap] w fun e w' => e = .returned (.bool true) ∧ Below w.heap.size w w' := by
  unfold maxLen at ws hm
  have HT := hid hT
  have HI := hid hI
  have HN := hid hn
  clear hT hI hn
  by_cases hs : 3000 < s.size
  · have hd : decide ((3000 : Int) < (s.size : Int)) = true := by simp; omega
    go_enter Tryd.func6, Tryd.ntmps6
    go_wp2
    go_ret
    exact ⟨rfl, Below.refl _ _⟩
  · have hd : decide ((3000 : Int) < (s.size : Int)) = false := by simp; omega
    by_cases hl : 100 < len
    · have hd2 : decide ((100 : Int) < (len : Int)) = true := by simp; omega
      go_enter Tryd.func6, Tryd.ntmps6
      go_wp2
      go_ret
      exact ⟨rfl, Below.refl _ _⟩
    · have hd2 : decide ((100 : Int) < (len : Int)) = false := by simp; omega
      have H1 := hid (fun w h hT => safe_any s a len cap ls w h (by omega) (by omega) hT)
      have H2 := hid (fun w h => rsafe_any s a len cap ls w h (by omega) (by omega) hlc (by omega))
      go_enter Tryd.func6, Tryd.ntmps6
      go_wp2_with fail
      refine (known4_any _ HT.out).mono ?_
      rintro e w1 ⟨rfl, b1⟩
      go_wp2_with fail
      refine (H1.out _ (HI.out.below b1) (url_below HT.out b1)).mono ?_
      rintro e w2 ⟨rfl, b2⟩
      have c2 := b1.trans (b2.mono b1.size)
      clear b1 b2
      go_wp2_with fail
      refine (H2.out _ (HI.out.below c2)).mono ?_
      rintro e w3 ⟨rfl, b3⟩
      have c3 := c2.trans (b3.mono c2.size)
      clear c2 b3
      go_wp2
      go_ret
      exact ⟨ret_bool' (by simp), c3⟩
end Go.Proofs.YtoipadpgpnkdkaaDoor.urlSafe
