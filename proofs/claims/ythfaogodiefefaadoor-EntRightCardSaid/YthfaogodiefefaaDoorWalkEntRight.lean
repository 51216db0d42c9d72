/- The walk of the statement EntRight. -/
import Derived.Test.YthfaogodiefefaaDoorKnownE
import Derived.Test.YthfaogodiefefaaDoorRefText
import Derived.Test.YthfaogodiefefaaDoorBytes
namespace Go.Proofs.YthfaogodiefefaaDoor.entRight
open Go.ChangeShapes Go.WideShapes Go.ChangeAt Go.RowKit Go.Lib
open Go.ChangeMaps (open_string shut_string)
set_option maxRecDepth 100000
set_option linter.unusedVariables false

set_option maxHeartbeats 2000000 in
theorem walk (w : World) (hT : EntW w) (a : Option Addr) (len cap : Nat) (l : List UInt8) (hB : IsB w a len l) (hlc : len ≤ cap) (hm : cap ≤ maxLen) (hn : a = none → cap = 0) (x : Bool) :
    Calls Tryd.prog 8 #[.slice a len cap, .bool x] w fun e w' => e = .returned (.bool true) ∧ Below w.heap.size w w' := by
  unfold maxLen at hm
  have HT := hid hT
  clear hT
  by_cases hs : 3000 < len
  · have hd : decide ((3000 : Int) < (len : Int)) = true := by simp; omega
    clear hB hn
    go_enter Tryd.func8, Tryd.ntmps8
    go_wp2
    go_ret
    exact ⟨rfl, Below.refl _ _⟩
  · have hd : decide ((3000 : Int) < (len : Int)) = false := by simp; omega
    have H0 := rtext_any a len cap l w hB hlc hm (by omega)
    obtain ⟨s, hs⟩ : ∃ s : ByteArray, s = ⟨(U8.text l).toArray⟩ := ⟨_, rfl⟩
    have hsl : s.data.toList = U8.text l := by rw [hs]
    have hr : U8.right s.data.toList = true := by rw [hsl]; exact U8.right_text l
    have hsz : s.size ≤ 20000 := by
      rw [← size_list, hsl]
      have h1 := U8.plain_le (trimPrefix l [239, 187, 191])
      have h2 := trimPrefix_le l [239, 187, 191]
      have h3 := hB.1
      unfold U8.text
      omega
    rw [← hs] at H0
    have H1 := fun w h => decode_any s x w (by omega) h
    obtain ⟨z, hz⟩ : ∃ z : ByteArray, z = ⟨(Ent.decode x s.data.toList).toArray⟩ := ⟨_, rfl⟩
    have hzl : z.data.toList = Ent.decode x s.data.toList := by rw [hz]
    have hzs : z.size ≤ 200000 := by
      rw [← size_list, hzl]
      have h1 := Ent.decode_le x s.data.toList
      rw [size_list] at h1
      omega
    rw [← hz] at H1
    have H2 := fun w => rright_any z w (by omega)
    rw [hzl, Ent.decode_right x _ _ (Nat.le_refl _) hr] at H2
    have HS := hid H0
    have H1 := hid H1
    have H2 := hid H2
    have HK := hid (fun w h => known3_any w h)
    clear hz hzl hB hn hs hsl hr hsz hzs H0
    go_enter Tryd.func8, Tryd.ntmps8
    go_wp2_with fail
    refine HS.out.mono ?_
    rintro e w0 ⟨rfl, b0⟩
    go_wp2_with fail
    refine (H1.out _ (ent_below HT.out b0)).mono ?_
    rintro e w1 ⟨rfl, b1⟩
    have c1 := b0.trans (b1.mono b0.size)
    clear b0 b1
    go_wp2_with fail
    refine (HK.out _ (ent_below HT.out c1)).mono ?_
    rintro e w2 ⟨rfl, b2⟩
    have c2 := c1.trans (b2.mono c1.size)
    clear c1 b2
    go_wp2_with fail
    refine (H2.out _).mono ?_
    rintro e w3 ⟨rfl, b3⟩
    have c3 := c2.trans (b3.mono c2.size)
    clear c2 b3
    go_wp2
    go_ret
    exact ⟨rfl, c3⟩
end Go.Proofs.YthfaogodiefefaaDoor.entRight
