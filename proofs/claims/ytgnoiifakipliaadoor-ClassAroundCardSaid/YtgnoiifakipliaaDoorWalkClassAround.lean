/- The walk of the statement ClassAround. -/
import Derived.Test.YtgnoiifakipliaaDoorKnownC
import Derived.Test.YtgnoiifakipliaaDoorBytes
namespace Go.Proofs.YtgnoiifakipliaaDoor.classAround
open Go.ChangeShapes Go.WideShapes Go.ChangeAt Go.RowKit Go.Lib
open Go.ChangeMaps (open_string shut_string)
set_option maxRecDepth 100000
set_option linter.unusedVariables false

set_option maxHeartbeats 1000000 in
theorem walk (w : World) (hT : AllTabs w) (a : Option Addr) (len cap : Nat) (l : List UInt8) (hB : IsB w a len l) (hlc : len ≤ cap) (hm : cap ≤ maxLen) (hn : a = none → cap = 0) (i : Int) (wi : (Lit.int .i64 i).wf = true) :
    Calls Tryd.prog 7 #[.slice a len cap, .int .i64 i] w fun e w' => e = .returned (.bool true) ∧ Below w.heap.size w w' := by
  unfold maxLen at hm
  by_cases hs : 5000 < len
  · have hd : decide ((5000 : Int) < (len : Int)) = true := by simp; omega
    clear hT hB hn
    go_enter Tryd.func7, Tryd.ntmps7
    go_wp2
    go_ret
    exact ⟨rfl, Below.refl _ _⟩
  · have hd : decide ((5000 : Int) < (len : Int)) = false := by simp; omega
    have HT := hid hT
    have H0 := rtext_any a len cap l w hB hlc hm (by omega)
    obtain ⟨s, hs⟩ : ∃ s : ByteArray, s = ⟨(U8.text l).toArray⟩ := ⟨_, rfl⟩
    have hsl : s.data.toList = U8.text l := by rw [hs]
    have hr : U8.right s.data.toList = true := by rw [hsl]; exact U8.right_text l
    have hsz : s.size ≤ 20000 := by
      rw [← size_list, hsl]
      have h1 := U8.plain_le (trimPrefix l [239, 187, 191])
      have h2 := trimPrefix_le l [239, 187, 191]
      have h3 := hB.1
      unfold U8.text
      omega
    rw [← hs] at H0
    have HS := hid H0
    have hsl2 := size_list s
    have HW := hid fun w => rwhole_any s i w (by omega)
    have HRP := hid fun w => rprev_any s i w (by omega)
    have HRN := hid fun w => rnext_any s i w (by omega)
    have HCN := hid fun w hT => cnext_any s i w (by omega) hT
    by_cases hi : 0 ≤ i ∧ i ≤ (s.size : Int)
    · obtain ⟨hi0, hi1⟩ := hi
      by_cases hw : wholeN s.data.toList i = true
      · have hrt : U8.right (s.data.toList.take i.toNat) = true := by
          unfold wholeN at hw
          simp only [Bool.and_eq_true] at hw
          exact hw.2
        have HCP := hid fun w hT => cprev_any s i w (by omega) hT (fun _ _ => hrt)
        rw [hw] at HW
        generalize prevN s.data.toList i = q1 at *
        generalize nextN s.data.toList i = q2 at *
        clear hT hB hn hs hsl hr hsz H0 hsl2 hw hrt
        go_enter Tryd.func7, Tryd.ntmps7
        go_wp2_with fail
        refine HS.out.mono ?_
        rintro e w0 ⟨rfl, b0⟩
        go_wp2_with fail
        refine (HW.out _).mono ?_
        rintro e w1 ⟨rfl, b1⟩
        have c1 := b0.trans (b1.mono b0.size)
        go_wp2_with fail
        refine (known2_any _ (all_below HT.out c1)).mono ?_
        rintro e w2 ⟨rfl, b2⟩
        have c2 := c1.trans (b2.mono c1.size)
        go_wp2_with fail
        refine (HCP.out _ (all_below HT.out c2).1).mono ?_
        rintro e w3 ⟨rfl, b3⟩
        have c3 := c2.trans (b3.mono c2.size)
        go_wp2_with fail
        refine (HRP.out _).mono ?_
        rintro e w4 ⟨rfl, b4⟩
        have c4 := c3.trans (b4.mono c3.size)
        go_wp2_with fail
        refine (HCN.out _ (all_below HT.out c4).1).mono ?_
        rintro e w5 ⟨rfl, b5⟩
        have c5 := c4.trans (b5.mono c4.size)
        go_wp2_with fail
        refine (HRN.out _).mono ?_
        rintro e w6 ⟨rfl, b6⟩
        have c6 := c5.trans (b6.mono c5.size)
        clear b0 b1 b2 b3 b4 b5 b6 c1 c2 c3 c4 c5
        go_wp2
        go_ret
        exact ⟨ret_bool' (by simp), c6⟩
      · rw [show wholeN s.data.toList i = false by simpa using hw] at HW
        clear hT hB hn hs hsl hr hsz H0 hsl2 hw HCN HRP HRN
        go_enter Tryd.func7, Tryd.ntmps7
        go_wp2_with fail
        refine HS.out.mono ?_
        rintro e w0 ⟨rfl, b0⟩
        go_wp2_with fail
        refine (HW.out _).mono ?_
        rintro e w1 ⟨rfl, b1⟩
        have c1 := b0.trans (b1.mono b0.size)
        go_wp2_with fail
        refine (known2_any _ (all_below HT.out c1)).mono ?_
        rintro e w2 ⟨rfl, b2⟩
        have c2 := c1.trans (b2.mono c1.size)
        clear b0 b1 b2 c1
        go_wp2
        go_ret
        exact ⟨rfl, c2⟩
    · have HCP := hid fun w hT => cprev_any s i w (by omega) hT (fun h1 h2 => absurd ⟨by omega, h2⟩ hi)
      generalize prevN s.data.toList i = q1 at *
      generalize nextN s.data.toList i = q2 at *
      rcases (show i < 0 ∨ (0 ≤ i ∧ (s.size : Int) < i) by omega) with hi | ⟨hi, hi2⟩
      all_goals
        clear hT hB hn hs hsl hr hsz H0 hsl2 HW
        go_enter Tryd.func7, Tryd.ntmps7
        go_wp2_with fail
        refine HS.out.mono ?_
        rintro e w0 ⟨rfl, b0⟩
        go_wp2_with fail
        refine (known2_any _ (all_below HT.out b0)).mono ?_
        rintro e w2 ⟨rfl, b2⟩
        have c2 := b0.trans (b2.mono b0.size)
        go_wp2_with fail
        refine (HCP.out _ (all_below HT.out c2).1).mono ?_
        rintro e w3 ⟨rfl, b3⟩
        have c3 := c2.trans (b3.mono c2.size)
        go_wp2_with fail
        refine (HRP.out _).mono ?_
        rintro e w4 ⟨rfl, b4⟩
        have c4 := c3.trans (b4.mono c3.size)
        go_wp2_with fail
        refine (HCN.out _ (all_below HT.out c4).1).mono ?_
        rintro e w5 ⟨rfl, b5⟩
        have c5 := c4.trans (b5.mono c4.size)
        go_wp2_with fail
        refine (HRN.out _).mono ?_
        rintro e w6 ⟨rfl, b6⟩
        have c6 := c5.trans (b6.mono c5.size)
        clear b0 b2 b3 b4 b5 b6 c2 c3 c4 c5
        go_wp2
        go_ret
        exact ⟨ret_bool' (by simp), c6⟩
end Go.Proofs.YtgnoiifakipliaaDoor.classAround
