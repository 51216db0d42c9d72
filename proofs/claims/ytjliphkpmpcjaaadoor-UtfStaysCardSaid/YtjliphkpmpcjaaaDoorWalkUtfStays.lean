/- The walk of the statement UtfStays. -/
import Derived.Test.YtjliphkpmpcjaaaDoorFrame
import Derived.Test.YtjliphkpmpcjaaaDoorStays
namespace Go.Proofs.YtjliphkpmpcjaaaDoor.utfStays
open Go.ChangeShapes Go.WideShapes Go.ChangeAt Go.RowKit Go.Lib
open Go.ChangeMaps (open_string shut_string)
set_option maxRecDepth 100000
set_option linter.unusedVariables false

/-- Text of the bytes of a text that begins with a letter. -/
theorem text_of (z : ByteArray) (hz : U8.text z.data.toList = z.data.toList) (a : Option Addr) (len cap : Nat) (w : World) (h : IsB w a len z.data.toList) (hs : len ≤ 4294967296) (hT : Tabs w) :
    Calls Tryd.prog 10 #[.slice a len cap] w fun e w' => e = .returned (.string z) ∧ Below w.heap.size w w' :=
  (utext_any a len cap _ w h hs hT).mono fun e w' ⟨h1, h2⟩ => ⟨by rw [h1, hz], h2⟩
theorem text_to (z : ByteArray) (l : List UInt8) (hz : U8.text l = z.data.toList) (a : Option Addr) (len cap : Nat) (w : World) (h : IsB w a len l) (hs : len ≤ 4294967296) (hT : Tabs w) :
    Calls Tryd.prog 10 #[.slice a len cap] w fun e w' => e = .returned (.string z) ∧ Below w.heap.size w w' :=
  (utext_any a len cap _ w h hs hT).mono fun e w' ⟨h1, h2⟩ => ⟨by rw [h1, hz], h2⟩

set_option maxHeartbeats 2000000 in
theorem walk (w : World) (hT : Tabs w) (a : Option Addr) (len cap : Nat) (l : List UInt8) (hB : IsB w a len l) (hlc : len ≤ cap) (hm : cap ≤ maxLen) (hn : a = none → cap = 0)
    (am : Option Addr) (lenm capm : Nat) (lm : List UInt8) (hBm : IsB w am lenm lm) (hlcm : lenm ≤ capm) (hmm : capm ≤ maxLen) (hnm : am = none → capm = 0) :
    Calls Tryd.prog 6 #[.slice a len cap, .slice am lenm capm] w fun e w' => e = .returned (.bool true) ∧ Below w.heap.size w w' := by
  unfold maxLen at hm hmm
  by_cases hs : 20000 < len
  · have hd : decide ((20000 : Int) < (len : Int)) = true := by simp; omega
    have HK := hid (known_any w hT)
    clear hT hB hn hBm hnm
    go_enter Tryd.func6, Tryd.ntmps6
    go_wp2_with fail
    refine HK.out.mono ?_
    rintro e w1 ⟨rfl, b1⟩
    go_wp2
    go_ret
    exact ⟨rfl, b1⟩
  have hd : decide ((20000 : Int) < (len : Int)) = false := by simp; omega
  by_cases hs2 : 20000 < lenm
  · have hd2 : decide ((20000 : Int) < (lenm : Int)) = true := by simp; omega
    have HK := hid (known_any w hT)
    clear hT hB hn hBm hnm
    go_enter Tryd.func6, Tryd.ntmps6
    go_wp2_with fail
    refine HK.out.mono ?_
    rintro e w1 ⟨rfl, b1⟩
    go_wp2
    go_ret
    exact ⟨rfl, b1⟩
  have hd2 : decide ((20000 : Int) < (lenm : Int)) = false := by simp; omega
  have HK := hid (known_any w hT)
  have HB := hid hB; have HT := hid hT; have HBM := hid hBm; have HNM := hid hnm
  have hl1 : len ≤ 20000 := by omega
  have hl2 : lenm ≤ 20000 := by omega
  have hll := hB.1
  have hllm := hBm.1
  -- the texts
  obtain ⟨S, hS⟩ : ∃ S : ByteArray, S = ⟨(U8.text l).toArray⟩ := ⟨_, rfl⟩
  have hSl : S.data.toList = U8.text l := by rw [hS]
  have hSr : U8.right S.data.toList = true := by rw [hSl]; exact U8.right_text l
  have hSz : S.size ≤ 60000 := by
    have h1 := U8.plain_le (trimPrefix l [239, 187, 191])
    have h2 := trimPrefix_le l [239, 187, 191]
    rw [← size_list, hSl]
    unfold U8.text
    omega
  obtain ⟨z1, hz1⟩ : ∃ z1 : ByteArray, (⟨#[97]⟩ : ByteArray) ++ S = z1 := ⟨_, rfl⟩
  have hz1l : z1.data.toList = 97 :: S.data.toList := by rw [← hz1, ByteArray.data_append]; simp
  have hz1z : z1.size = S.size + 1 := by rw [← size_list, hz1l, List.length_cons, size_list]
  have hz1t : U8.text z1.data.toList = z1.data.toList := by rw [hz1l, text_cons _ _ (by decide) (by decide), U8.plain_of_right _ hSr]
  obtain ⟨z2, hz2⟩ : ∃ z2 : ByteArray, z1 ++ (⟨#[98]⟩ : ByteArray) = z2 := ⟨_, rfl⟩
  have hz2l : z2.data.toList = 97 :: (S.data.toList ++ [98]) := by rw [← hz2, ByteArray.data_append, Array.toList_append, hz1l]; simp
  have hz2z : z2.size = S.size + 2 := by rw [← size_list, hz2l]; simp
  obtain ⟨R, hR⟩ : ∃ R : ByteArray, R = ⟨(98 :: U8.plain lm).toArray⟩ := ⟨_, rfl⟩
  have hRl : R.data.toList = 98 :: U8.plain lm := by rw [hR]
  have hRt : U8.text (98 :: lm) = R.data.toList := by rw [hRl, text_cons _ _ (by decide) (by decide)]
  have hRz : R.size ≤ 60001 := by
    have h1 := U8.plain_le lm
    rw [← size_list, hRl, List.length_cons]
    omega
  obtain ⟨z3, hz3⟩ : ∃ z3 : ByteArray, z1 ++ R = z3 := ⟨_, rfl⟩
  have hz3l : z3.data.toList = 97 :: (S.data.toList ++ 98 :: U8.plain lm) := by rw [← hz3, ByteArray.data_append, Array.toList_append, hz1l, hRl]; simp
  have hz3t : U8.text (z2.data.toList ++ lm) = z3.data.toList := by
    rw [hz2l, hz3l, List.cons_append, text_cons _ _ (by decide) (by decide), List.append_assoc, U8.plain_append _ _ hSr]
    show _ = 97 :: (S.data.toList ++ 98 :: U8.plain lm)
    rw [show [98] ++ lm = [98] ++ lm from rfl, U8.plain_append [98] lm (right_one 98 (by decide) (by decide))]
    rfl
  have HSL := hid hSl; have HSR := hid hSr; have HZ1T := hid hz1t; have HZ3T := hid hz3t; have HRT := hid hRt; have HZ2Z := hid hz2z
  have hz1z' : z1.size ≤ 60001 := by omega
  have hz2z' : z2.size ≤ 60002 := by omega
  have HLM := hid hllm
  clear hT hB hn hBm hnm hS hSl hSr hz1l hz1z hz1t hz2l hz2z hR hRl hRt hz3l hz3t hll hllm
  go_enter Tryd.func6, Tryd.ntmps6
  go_wp2_with fail
  refine HK.out.mono ?_
  rintro e w1 ⟨rfl, b1⟩
  go_wp2_with fail
  refine (text_to S l HSL.out.symm a len cap w1 (HB.out.below b1) (by omega) (Utf8Tabs_below HT.out b1)).mono ?_
  rintro e w2 ⟨rfl, b2⟩
  have c2 := b1.trans (b2.mono b1.size)
  clear b1 b2
  have hcb := run_bytes_of_string (P := Tryd.prog) w2 9 22 5 z1 Tryd.underlying9 Tryd.underlying22 Tryd.underlying5
  generalize grownCap w2 z1.size 0 5 = k1 at *
  have c2' := (c2.drew.alloc c2.size (.cells (bytesRow z1 k1) 5 ((bytesRow z1 k1).size, (bytesRow z1 k1).size + 1)))
  have HTx := hid (text_of z1 HZ1T.out (some ⟨w2.heap.size, 0, none⟩) z1.size k1 _ (isB_made w2 z1 k1 ((bytesRow z1 k1).size, (bytesRow z1 k1).size + 1)) (by omega) (Utf8Tabs_below HT.out c2'))
  go_wp2_with fail
  refine HTx.out.mono ?_
  rintro e w3 ⟨rfl, b3⟩
  have c3 := c2'.trans (b3.mono c2'.size)
  clear HTx hcb b3 c2' c2
  have hsz3 := c3.size
  go_wp2_with (at_builtin; refine append_text rfl _ _ rfl w.heap.size _ [] rfl (World.ownsRow_nil _ _ _ _) z2 rfl (by simp; omega) hsz3 ?_)
  intro v4 w4 o4 g4
  have o4' : w4.ownsRow w.heap.size 5 1 v4 z2.data.toList.length (byteCells z2.data.toList) := by simpa using o4
  have c4 := c3.grown g4 hsz3 (own_ge (World.ownsRow_nil w3 w.heap.size 5 1))
  have hsz4 := c4.size
  have HBM4 := hid (HBM.out.below c4)
  clear o4 g4 c3 hsz3
  go_wp2_with (at_builtin; refine append_in rfl _ _ rfl w.heap.size _ z2.data.toList rfl o4' am lenm capm lm rfl HBM4.out HNM.out (by rw [size_list]; omega) hsz4 ?_)
  intro v5 w5 o5 g5
  have hl5 : (z2.data.toList ++ lm).length = z2.size + lenm := by rw [List.length_append, size_list, HLM.out]
  have o5' : w5.ownsRow w.heap.size 5 1 v5 (z2.data.toList ++ lm).length (byteCells (z2.data.toList ++ lm)) := by
    rw [hl5]
    simpa [HLM.out] using o5
  obtain ⟨a5, cap5, rfl, i5, q5, m5⟩ := own_isB o5'
  rw [hl5] at i5 q5
  rw [hl5]
  have c5 := c4.grown g5 hsz4 (own_ge o4')
  have HI5 := hid i5
  have HBM5 := hid (HBM.out.below c5)
  clear o5 o5' g5 o4' c4 hsz4 hl5 i5 HBM4 q5 m5
  have kc := fun (w : World) (C : Array Value) (n c : Nat) => Lib.run_convert_bytes_const (P := Tryd.prog) w 22 5 C n c Tryd.underlying22 Tryd.underlying5
  have c6 := c5.alloc c5.size (.cells #[.int .u8 98] 5 (1, 2))
  have HBM6 := hid (HBM.out.below c6)
  have hat6 : Hid (BytesAt (w5.alloc (.cells #[.int .u8 98] 5 (1, 2))) w5.heap.size 0 [98]) := hid fun i hi => by
    have := new_bytes w5 [98] #[.int .u8 98] (1, 2) rfl i hi
    rwa [addr_add] at this
  have b6 := (Below.refl w5.heap.size w5).alloc (Nat.le_refl _) (.cells #[.int .u8 98] 5 (1, 2))
  go_wp2_with (at_builtin; refine append_full rfl _ _ rfl w5.heap.size 1 [98] rfl rfl hat6.out am lenm capm lm rfl HBM6.out HNM.out (by omega) ?_)
  intro a7 cap7 w7 i7 q7 m7 b7
  have b7' : Below (w5.alloc (.cells #[.int .u8 98] 5 (1, 2))).heap.size (w5.alloc (.cells #[.int .u8 98] 5 (1, 2))) w7 := by
    have hsz : (w5.alloc (.cells #[.int .u8 98] 5 (1, 2))).heap.size = w5.heap.size + 1 := by simp
    rw [hsz]
    exact b7
  have c7 := c6.trans (b7'.mono c6.size)
  have HI57 := hid ((HI5.out.below b6).below b7')
  clear kc c6 HBM5 HBM6 hat6 b6 b7 b7' q7 m7 c5
  go_wp2_with fail
  refine (text_to R (98 :: lm) HRT.out a7 (1 + lenm) cap7 w7 i7 (by omega) (Utf8Tabs_below HT.out c7)).mono ?_
  rintro e w8 ⟨rfl, b8⟩
  have c8 := c7.trans (b8.mono c7.size)
  have HI58 := hid (HI57.out.below b8)
  clear b8 c7 i7 HI57 HI5
  have hur := uright_any S w8 (by omega)
  rw [HSR.out] at hur
  have HUR := hid hur
  clear hur
  go_wp2_with fail
  refine HUR.out.mono ?_
  rintro e w9 ⟨rfl, b9⟩
  have c9 := c8.trans (b9.mono c8.size)
  have HI59 := hid (HI58.out.below b9)
  clear b9 c8 HI58 HUR
  go_wp2_with fail
  refine (text_to z3 (z2.data.toList ++ lm) HZ3T.out a5 (z2.size + lenm) cap5 w9 HI59.out (by omega) (Utf8Tabs_below HT.out c9)).mono ?_
  rintro e w10 ⟨rfl, b10⟩
  have c10 := c9.trans (b10.mono c9.size)
  clear b10 c9 HI59
  go_wp2
  go_ret
  exact ⟨rfl, c10⟩
end Go.Proofs.YtjliphkpmpcjaaaDoor.utfStays
