/- The walk of the statement ClassFolds. -/
import Derived.Test.YtgnoiifakipliaaDoorKnownC
import Derived.Test.YtgnoiifakipliaaDoorRefFold
import Derived.Test.YtgnoiifakipliaaDoorBytes
namespace Go.Proofs.YtgnoiifakipliaaDoor.classFolds
open Go.ChangeShapes Go.WideShapes Go.ChangeAt Go.RowKit Go.Lib
open Go.ChangeMaps (open_string shut_string)
set_option maxRecDepth 100000
set_option linter.unusedVariables false

theorem flat_len : ∀ cs : List Nat, (foldCs cs).length ≤ 2 * cs.length
  | [] => by simp [foldCs]
  | c :: cs => by
    have h1 := flat_len cs
    have h2 := foldC_len c
    unfold foldCs at h1 ⊢
    rw [List.flatMap_cons, List.length_append, List.length_cons]; omega
set_option maxHeartbeats 1000000 in
theorem walk (w : World) (hT : AllTabs w) (a : Option Addr) (len cap : Nat) (l : List UInt8) (hB : IsB w a len l) (hlc : len ≤ cap) (hm : cap ≤ maxLen) (hn : a = none → cap = 0) :
    Calls Tryd.prog 5 #[.slice a len cap] w fun e w' => e = .returned (.bool true) ∧ Below w.heap.size w w' := by
  unfold maxLen at hm
  by_cases hs : 5000 < len
  · have hd : decide ((5000 : Int) < (len : Int)) = true := by simp; omega
    clear hT hB hn
    go_enter Tryd.func5, Tryd.ntmps5
    go_wp2
    go_ret
    exact ⟨rfl, Below.refl _ _⟩
  · have hd : decide ((5000 : Int) < (len : Int)) = false := by simp; omega
    have HT := hid hT
    have H0 := rtext_any a len cap l w hB hlc hm (by omega)
    obtain ⟨s, hs⟩ : ∃ s : ByteArray, s = ⟨(U8.text l).toArray⟩ := ⟨_, rfl⟩
    have hsl : s.data.toList = U8.text l := by rw [hs]
    have hr : U8.right s.data.toList = true := by rw [hsl]; exact U8.right_text l
    have hsz : s.size ≤ 20000 := by
      rw [← size_list, hsl]
      have h1 := U8.plain_le (trimPrefix l [239, 187, 191])
      have h2 := trimPrefix_le l [239, 187, 191]
      have h3 := hB.1
      unfold U8.text
      omega
    rw [← hs] at H0
    have HS := hid H0
    have H1 := fun w => cfold_any s w (by omega) hr
    have H2 := fun w => rFold_any s w (by omega) hr
    obtain ⟨z, hz⟩ : ∃ z : ByteArray, z = ⟨(foldL s.data.toList).toArray⟩ := ⟨_, rfl⟩
    have hzl : z.data.toList = foldL s.data.toList := by rw [hz]
    have hzs : z.size ≤ 200000 := by
      rw [← size_list, hzl]
      have h1 := encs_len (foldCs (runes s.data.toList))
      have h2 := runes_length s.data.toList
      have h3 := flat_len (runes s.data.toList)
      rw [size_list] at h2
      unfold foldL
      omega
    have H3 := fun w => cfold_any z w (by omega) (by rw [hzl]; exact foldL_right _ hr)
    rw [hzl, foldL_fold _ hr] at H3
    rw [← hz] at H1 H2 H3
    have H1 := hid H1
    have H2 := hid H2
    have H3 := hid H3
    clear hT hz hzl hB hn hs hsl hr hsz hzs H0
    go_enter Tryd.func5, Tryd.ntmps5
    go_wp2_with fail
    refine HS.out.mono ?_
    rintro e w0 ⟨rfl, b0⟩
    go_wp2_with fail
    refine (H1.out _).mono ?_
    rintro e w1 ⟨rfl, b1⟩
    have c1 := b0.trans (b1.mono b0.size)
    go_wp2_with fail
    refine (known2_any _ (all_below HT.out c1)).mono ?_
    rintro e w2 ⟨rfl, b2⟩
    go_wp2_with fail
    refine (H2.out _).mono ?_
    rintro e w3 ⟨rfl, b3⟩
    go_wp2_with fail
    refine (H3.out _).mono ?_
    rintro e w4 ⟨rfl, b4⟩
    have c2 := c1.trans (b2.mono c1.size)
    have c3 := c2.trans (b3.mono c2.size)
    have c4 := c3.trans (b4.mono c3.size)
    clear b0 b1 b2 b3 b4 c1 c2 c3
    go_wp2
    go_ret
    exact ⟨ret_bool' (by simp), c4⟩
end Go.Proofs.YtgnoiifakipliaaDoor.classFolds
