/- The walk of the statement UtfTexts. -/
import Derived.Test.YtjliphkpmpcjaaaDoorFrame
import Derived.Test.YtjliphkpmpcjaaaDoorBytes
namespace Go.Proofs.YtjliphkpmpcjaaaDoor.utfTexts
open Go.ChangeShapes Go.WideShapes Go.ChangeAt Go.RowKit Go.Lib
open Go.ChangeMaps (open_string shut_string)
set_option maxRecDepth 100000
set_option linter.unusedVariables false

set_option maxHeartbeats 1000000 in
theorem walk (w : World) (hT : Tabs w) (a : Option Addr) (len cap : Nat) (l : List UInt8) (hB : IsB w a len l) (hlc : len ≤ cap) (hm : cap ≤ maxLen) (hn : a = none → cap = 0) :
    Calls Tryd.prog 3 #[.slice a len cap] w fun e w' => e = .returned (.bool true) ∧ Below w.heap.size w w' := by
  unfold maxLen at hm
  by_cases hs : 20000 < len
  · have hd : decide ((20000 : Int) < (len : Int)) = true := by simp; omega
    clear hT hB hn
    go_enter Tryd.func3, Tryd.ntmps3
    go_wp2
    go_ret
    exact ⟨rfl, Below.refl _ _⟩
  · have hd : decide ((20000 : Int) < (len : Int)) = false := by simp; omega
    have HB := hid hB; have HN := hid hn; have HT := hid hT
    have hll := hB.1
    have HLL := hid hll
    have h1 : len ≤ 20000 := by omega
    clear hB hn hT hll
    go_enter Tryd.func3, Tryd.ntmps3
    go_wp2_with (at_builtin; refine append_in rfl _ _ rfl w.heap.size _ [] rfl (World.ownsRow_nil _ _ _ _) a len cap l rfl HB.out HN.out (by simp; omega) (Nat.le_refl _) ?_)
    intro v' w1 o1 g1
    have b1 := (Below.refl w.heap.size w).grown g1 (Nat.le_refl _) (own_ge (World.ownsRow_nil w w.heap.size 5 1))
    have o1' : w1.ownsRow w.heap.size 5 1 v' l.length (byteCells l) := by simpa using o1
    obtain ⟨a2, cap2, rfl, i2, q2, m2⟩ := own_isB o1'
    have h2 : l.length ≤ 4294967296 := by rw [HLL.out]; omega
    have HTx := hid (utext_any a2 l.length cap2 l w1 i2 h2 (Utf8Tabs_below HT.out b1))
    have HI2 := hid i2
    clear o1 g1 o1' i2
    go_wp2_with fail
    refine HTx.out.mono ?_
    rintro e w2 ⟨rfl, b2⟩
    have c2 := b1.trans (b2.mono b1.size)
    go_wp2_with fail
    refine (known_any w2 (Utf8Tabs_below HT.out c2)).mono ?_
    rintro e w3 ⟨rfl, b3⟩
    have c3 := c2.trans (b3.mono c2.size)
    have HI3 := hid (HB.out.below c3)
    go_wp2_with fail
    refine (rtext_any a len cap l w3 HI3.out hlc hm (by omega)).mono ?_
    rintro e w4 ⟨rfl, b4⟩
    have c4 := c3.trans (b4.mono c3.size)
    have HI4 := hid (HB.out.below c4)
    have d3 := b2.trans (b3.mono b2.size)
    have d4 := d3.trans (b4.mono d3.size)
    have HI24 := hid (HI2.out.below d4)
    clear b1 b2 b3 b4 c2 c3 d3 d4 HI2 HI3
    obtain ⟨T, hTT⟩ : ∃ T, (⟨(U8.text l).toArray⟩ : ByteArray) = T := ⟨_, rfl⟩
    rw [hTT]
    clear hTT HTx
    go_wp2_with fail
    refine (sameBytes_any cap2 cap w4 HI24.out HI4.out).mono ?_
    rintro e w5 ⟨rfl, rfl⟩
    go_wp2
    go_ret
    exact ⟨ret_bool' (by simp), c4⟩
end Go.Proofs.YtjliphkpmpcjaaaDoor.utfTexts
