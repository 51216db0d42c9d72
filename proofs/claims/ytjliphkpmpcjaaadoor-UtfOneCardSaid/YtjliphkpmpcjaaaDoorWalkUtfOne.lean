/- The walk of the statement UtfOne. -/
import Derived.Test.YtjliphkpmpcjaaaDoorFrame
import Derived.Test.YtjliphkpmpcjaaaDoorStays
import Derived.Test.YtjliphkpmpcjaaaDoorRune
namespace Go.Proofs.YtjliphkpmpcjaaaDoor.utfOne
open Go.ChangeShapes Go.WideShapes Go.ChangeAt Go.RowKit Go.Lib
open Go.ChangeMaps (open_string shut_string)
set_option maxRecDepth 100000
set_option linter.unusedVariables false

theorem text_to (z : ByteArray) (l : List UInt8) (hz : U8.text l = z.data.toList) (a : Option Addr) (len cap : Nat) (w : World) (h : IsB w a len l) (hs : len ≤ 4294967296) (hT : Tabs w) :
    Calls Tryd.prog 10 #[.slice a len cap] w fun e w' => e = .returned (.string z) ∧ Below w.heap.size w w' :=
  (utext_any a len cap _ w h hs hT).mono fun e w' ⟨h1, h2⟩ => ⟨by rw [h1, hz], h2⟩
theorem rtext_to (z : ByteArray) (l : List UInt8) (hz : U8.text l = z.data.toList) (a : Option Addr) (len cap : Nat) (w : World) (h : IsB w a len l) (hlc : len ≤ cap) (hcap : cap ≤ 9223372036854775807) (hs : len ≤ 4294967296) :
    Calls Tryd.prog 12 #[.slice a len cap] w fun e w' => e = .returned (.string z) ∧ Below w.heap.size w w' :=
  (rtext_any a len cap _ w h hlc hcap hs).mono fun e w' ⟨h1, h2⟩ => ⟨by rw [h1, hz], h2⟩

theorem conv_rune (w : World) (r : Int) : (convert 32 9 (.slice (some ⟨w.heap.size, 0, none⟩) 1 1)).run Tryd.prog (w.alloc (.cells #[.int .i32 r] 21 (0, 0))) = .ok (.string (Utf8.encode r)) (w.alloc (.cells #[.int .i32 r] 21 (0, 0))) := by
  have h := run_convert_runes (P := Tryd.prog) (w.alloc (.cells #[.int .i32 r] 21 (0, 0))) 32 9 21 ⟨w.heap.size, 0, none⟩ 1 1 [r] (by simp) Tryd.underlying32 Tryd.underlying21 Tryd.underlying9 (fun j hj => by
    obtain rfl : j = 0 := by simp at hj; omega
    rw [addr_add, Nat.zero_add, World.cell?_alloc_mark]; rfl)
  rw [h]
  show Result.ok (Value.string (runesBytes [r])) _ = _
  rw [runes_one]

theorem uright_to (z : ByteArray) (b : Bool) (h : U8.right z.data.toList = b) (w : World) (hs : z.size ≤ 9223372036854775807) :
    Calls Tryd.prog 14 #[.string z] w fun e w' => e = .returned (.bool b) ∧ Below w.heap.size w w' :=
  (uright_any z w hs).mono fun e w' ⟨h1, h2⟩ => ⟨by rw [h1, h], h2⟩
theorem kept_begin {w W : World} {F : World → Prop} (cv : ∀ W, Below w.heap.size w W → F W) (h : Below w.heap.size w W) : Below w.heap.size w W.drew ∧ F W.drew := ⟨h.drew, cv _ h.drew⟩
theorem kept_call {w W W' : World} {F : World → Prop} (cv : ∀ W, Below w.heap.size w W → F W) (h : Below w.heap.size w W ∧ F W) (b : Below W.heap.size W W') : Below w.heap.size w W' ∧ F W' :=
  have c := h.1.trans (b.mono h.1.size); ⟨c, cv _ c⟩
theorem kept_made {w W : World} {F : World → Prop} (cv : ∀ W, Below w.heap.size w W → F W) (B) (h : Below w.heap.size w W ∧ F W) : Below w.heap.size w (W.drew.alloc B) ∧ F (W.drew.alloc B) :=
  have c := h.1.drew.alloc h.1.drew.size B; ⟨c, cv _ c⟩
theorem tabs_kept {w W : World} {p : Prop} (hT : Tabs w) (h : Below w.heap.size w W ∧ p) : Tabs W := Utf8Tabs_below hT h.1

set_option maxHeartbeats 2000000 in
theorem walk_two (w : World) (hT : Tabs w) (r : Int) (wr : (Lit.int .i32 r).wf = true) (a : Option Addr) (len cap : Nat) (l : List UInt8) (hB : IsB w a len l) (hlc : len ≤ cap) (hm : cap ≤ 9223372036854775807) (hn : a = none → cap = 0) (hs : ¬ 20000 < len) (hc : r = 0 ∨ r = 65279) :
    Calls Tryd.prog 9 #[.int .i32 r, .slice a len cap] w fun e w' => e = .returned (.bool true) ∧ Below w.heap.size w w' := by
  have hd : decide ((20000 : Int) < (len : Int)) = false := by simp; omega
  have HK := hid (known_any w hT)
  have HB := hid hB; have HT := hid hT
  have hl1 : len ≤ 20000 := by omega
  have hll := hB.1
  obtain ⟨S, hS⟩ : ∃ S : ByteArray, Utf8.encode r = S := ⟨_, rfl⟩
  have hSl : S.data.toList = encL r := by rw [← hS]; rfl
  have hSz : S.size ≤ 4 := by rw [← hS]; exact encode_size_le r
  obtain ⟨z1, hz1⟩ : ∃ z1 : ByteArray, (⟨#[97]⟩ : ByteArray) ++ S = z1 := ⟨_, rfl⟩
  have hz1l : z1.data.toList = 97 :: S.data.toList := by rw [← hz1, ByteArray.data_append]; simp
  have hz1z : z1.size = S.size + 1 := by rw [← size_list, hz1l, List.length_cons, size_list]
  -- the two characters that Text leaves out, or turns
  obtain ⟨T, hTe⟩ : ∃ T : ByteArray, T = ⟨(U8.text z1.data.toList).toArray⟩ := ⟨_, rfl⟩
  have hTl : U8.text z1.data.toList = T.data.toList := by rw [hTe]
  have hTl2 : T.data.toList = 97 :: U8.plain S.data.toList := by rw [← hTl, hz1l, text_cons _ _ (by decide) (by decide)]
  have hTz : T.size ≤ 13 := by
    have h1 := U8.plain_le S.data.toList
    rw [← size_list, hTl2, List.length_cons]
    rw [size_list] at h1
    omega
  have hTz1 : 1 ≤ T.size := by rw [← size_list, hTl2]; simp
  have hTx : (⟨#[97]⟩ : ByteArray) ++ T.extract 1 T.size = T := by
    apply ByteArray.ext
    apply Array.ext'
    rw [ByteArray.data_append, Array.toList_append, extract_drop, hTl2]
    simp
  have HTL := hid hTl
  have hz1z' : z1.size ≤ 5 := by omega
  have hTzI : (1 : Int) ≤ (T.size : Int) := by omega
  have hxs : (T.extract 1 T.size).size = T.size - 1 := by rw [size_eq, extract_drop, List.length_drop, size_list]
  have HXS := hid hxs
  clear hT hB hn hSl hz1l hz1z hTe hTl hTl2 hll hxs
  have cv := fun w => conv_rune w r
  simp only [hS] at cv
  rcases hc with rfl | rfl
  · go_enter Tryd.func9, Tryd.ntmps9
    go_wp2_with fail
    refine HK.out.mono ?_
    rintro e w1 ⟨rfl, b1⟩
    have cv1 := cv w1
    obtain ⟨W2, hW⟩ : ∃ W2, w1.alloc (.cells #[.int .i32 0] 21 (0, 0)) = W2 := ⟨_, rfl⟩
    have c2 := b1.alloc b1.size (.cells #[.int .i32 0] 21 (0, 0))
    rw [hW] at cv1 c2
    clear cv b1
    have hcb := run_bytes_of_string (P := Tryd.prog) W2 9 22 5 z1 Tryd.underlying9 Tryd.underlying22 Tryd.underlying5
    generalize grownCap W2 z1.size 0 5 = k1 at *
    have c2' := (c2.drew.alloc c2.size (.cells (bytesRow z1 k1) 5 ((bytesRow z1 k1).size, (bytesRow z1 k1).size + 1)))
    have HTx := hid (text_to T _ HTL.out (some ⟨W2.heap.size, 0, none⟩) z1.size k1 _ (isB_made W2 z1 k1 ((bytesRow z1 k1).size, (bytesRow z1 k1).size + 1)) (by omega) (Utf8Tabs_below HT.out c2'))
    go_wp2_with fail
    refine HTx.out.mono ?_
    rintro e w3 ⟨rfl, b3⟩
    have c3 := c2'.trans (b3.mono c2'.size)
    clear HTx hcb b3 c2' c2 cv1 hW
    have hcb := run_bytes_of_string (P := Tryd.prog) w3 9 22 5 z1 Tryd.underlying9 Tryd.underlying22 Tryd.underlying5
    have hk2 := grownCap_ge w3 z1.size 0 5
    have hk3 := grownCap_le_maxLen w3 z1.size 0 5 (by unfold maxLen; omega)
    unfold maxLen at hk3
    generalize grownCap w3 z1.size 0 5 = k2 at *
    have c3' := (c3.drew.alloc c3.size (.cells (bytesRow z1 k2) 5 ((bytesRow z1 k2).size, (bytesRow z1 k2).size + 1)))
    have HRx := hid (rtext_to T _ HTL.out (some ⟨w3.heap.size, 0, none⟩) z1.size k2 _ (isB_made w3 z1 k2 ((bytesRow z1 k2).size, (bytesRow z1 k2).size + 1)) hk2 (by omega) (by omega))
    go_wp2_with fail
    refine HRx.out.mono ?_
    rintro e w4 ⟨rfl, b4⟩
    have c4 := c3'.trans (b4.mono c3'.size)
    clear HRx hcb b4 c3' c3
    go_wp2
    go_ret
    exact ⟨rfl, c4⟩
  · go_enter Tryd.func9, Tryd.ntmps9
    go_wp2_with fail
    refine HK.out.mono ?_
    rintro e w1 ⟨rfl, b1⟩
    have cv1 := cv w1
    obtain ⟨W2, hW⟩ : ∃ W2, w1.alloc (.cells #[.int .i32 65279] 21 (0, 0)) = W2 := ⟨_, rfl⟩
    have c2 := b1.alloc b1.size (.cells #[.int .i32 65279] 21 (0, 0))
    rw [hW] at cv1 c2
    clear cv b1
    have hcb := run_bytes_of_string (P := Tryd.prog) W2 9 22 5 z1 Tryd.underlying9 Tryd.underlying22 Tryd.underlying5
    generalize grownCap W2 z1.size 0 5 = k1 at *
    have c2' := (c2.drew.alloc c2.size (.cells (bytesRow z1 k1) 5 ((bytesRow z1 k1).size, (bytesRow z1 k1).size + 1)))
    have HTx := hid (text_to T _ HTL.out (some ⟨W2.heap.size, 0, none⟩) z1.size k1 _ (isB_made W2 z1 k1 ((bytesRow z1 k1).size, (bytesRow z1 k1).size + 1)) (by omega) (Utf8Tabs_below HT.out c2'))
    go_wp2_with fail
    refine HTx.out.mono ?_
    rintro e w3 ⟨rfl, b3⟩
    have c3 := c2'.trans (b3.mono c2'.size)
    clear HTx hcb b3 c2' c2 cv1 hW
    have hcb := run_bytes_of_string (P := Tryd.prog) w3 9 22 5 z1 Tryd.underlying9 Tryd.underlying22 Tryd.underlying5
    have hk2 := grownCap_ge w3 z1.size 0 5
    have hk3 := grownCap_le_maxLen w3 z1.size 0 5 (by unfold maxLen; omega)
    unfold maxLen at hk3
    generalize grownCap w3 z1.size 0 5 = k2 at *
    have c3' := (c3.drew.alloc c3.size (.cells (bytesRow z1 k2) 5 ((bytesRow z1 k2).size, (bytesRow z1 k2).size + 1)))
    have HRx := hid (rtext_to T _ HTL.out (some ⟨w3.heap.size, 0, none⟩) z1.size k2 _ (isB_made w3 z1 k2 ((bytesRow z1 k2).size, (bytesRow z1 k2).size + 1)) hk2 (by omega) (by omega))
    go_wp2_with fail
    refine HRx.out.mono ?_
    rintro e w4 ⟨rfl, b4⟩
    have c4 := c3'.trans (b4.mono c3'.size)
    clear HRx hcb b4 c3' c3
    go_wp2
    go_ret
    exact ⟨rfl, c4⟩

set_option maxHeartbeats 4000000 in
theorem walk_rest (w : World) (hT : Tabs w) (r : Int) (wr : (Lit.int .i32 r).wf = true) (a : Option Addr) (len cap : Nat) (l : List UInt8) (hB : IsB w a len l) (hlc : len ≤ cap) (hm : cap ≤ 9223372036854775807) (hn : a = none → cap = 0) (hs : ¬ 20000 < len) (hc : ¬ (r = 0 ∨ r = 65279)) :
    Calls Tryd.prog 9 #[.int .i32 r, .slice a len cap] w fun e w' => e = .returned (.bool true) ∧ Below w.heap.size w w' := by
  have hd : decide ((20000 : Int) < (len : Int)) = false := by simp; omega
  have HK := hid (known_any w hT)
  have HB := hid hB; have HT := hid hT
  have hl1 : len ≤ 20000 := by omega
  have hll := hB.1
  obtain ⟨S, hS⟩ : ∃ S : ByteArray, Utf8.encode r = S := ⟨_, rfl⟩
  have hSl : S.data.toList = encL r := by rw [← hS]; rfl
  have hSz : S.size ≤ 4 := by rw [← hS]; exact encode_size_le r
  obtain ⟨z1, hz1⟩ : ∃ z1 : ByteArray, (⟨#[97]⟩ : ByteArray) ++ S = z1 := ⟨_, rfl⟩
  have hz1l : z1.data.toList = 97 :: S.data.toList := by rw [← hz1, ByteArray.data_append]; simp
  have hz1z : z1.size = S.size + 1 := by rw [← size_list, hz1l, List.length_cons, size_list]
  have hr0 : r ≠ 0 := fun h => hc (.inl h)
  have hrb : r ≠ 65279 := fun h => hc (.inr h)
  have t0 : (r == 0) = false := beq_eq_false_iff_ne.2 hr0
  have t1 : (r == 65279) = false := beq_eq_false_iff_ne.2 hrb
  have hSr : U8.right S.data.toList = true := by rw [hSl]; exact encL_right r (codeOf_zero hr0)
  have hSt : U8.text S.data.toList = S.data.toList := by rw [hSl]; exact encL_text r (codeOf_zero hr0) (codeOf_bom hrb)
  obtain ⟨Bs, hBs⟩ : ∃ Bs : ByteArray, Bs = ⟨l.toArray⟩ := ⟨_, rfl⟩
  have hBl : Bs.data.toList = l := by rw [hBs]
  have hBz : Bs.size = len := by rw [← size_list, hBl, hll]
  obtain ⟨z2, hz2⟩ : ∃ z2 : ByteArray, z1 ++ Bs = z2 := ⟨_, rfl⟩
  have hz2l : z2.data.toList = (97 :: S.data.toList) ++ Bs.data.toList := by rw [← hz2, ByteArray.data_append, Array.toList_append, hz1l]
  have hz2z : z2.size = S.size + 1 + len := by rw [← size_list, hz2l, List.length_append, List.length_cons, size_list, size_list, hBz]
  have hzr : U8.right z2.data.toList = U8.right Bs.data.toList := by
    rw [hz2l]
    have h1 : U8.right (97 :: S.data.toList) = true := by
      have := U8.right_append [97] S.data.toList (right_one 97 (by decide) (by decide))
      rw [hSr] at this
      exact this
    exact U8.right_append _ _ h1
  obtain ⟨R, hR⟩ : ∃ R, U8.right Bs.data.toList = R := ⟨_, rfl⟩
  rw [hR] at hzr
  have hsz5 : S.size ≤ 9223372036854775807 := by omega
  have hzz5 : z2.size ≤ 9223372036854775807 := by omega
  have hbz5 : Bs.size ≤ 9223372036854775807 := by omega
  have hst5 : S.size ≤ 4294967296 := by omega
  have HBR := hid hR; have HSZ := hid hsz5; have HZZ := hid hzz5; have HBZ := hid hbz5; have HTZ := hid hst5
  have HSR := hid hSr; have HST := hid hSt; have HZR := hid hzr
  have hz2z' : z2.size ≤ 20005 := by omega
  have hBz' : Bs.size ≤ 20000 := by omega
  have hz1z' : z1.size ≤ 5 := by omega
  have cvB : ∀ W, Below w.heap.size w W → (convert 22 9 (.slice a len cap)).run Tryd.prog W = .ok (.string Bs) W := fun W hb => by
    rw [hBs]; exact conv_bytes (HB.out.below hb) cap
  have CVB := hid cvB
  have cv := fun w => conv_rune w r
  simp only [hS] at cv
  clear hR hsz5 hzz5 hbz5 hst5 hT hB hn hSl hz1l hz1z hll hSr hSt hBs hBl hBz hz2l hz2z hzr cvB hr0 hrb hc
  go_enter Tryd.func9, Tryd.ntmps9
  go_wp2_with fail
  refine HK.out.mono ?_
  rintro e w1 ⟨rfl, b1⟩
  have cv1 := cv w1
  obtain ⟨W2, hW⟩ : ∃ W2, w1.alloc (.cells #[.int .i32 r] 21 (0, 0)) = W2 := ⟨_, rfl⟩
  have c2 := b1.alloc b1.size (.cells #[.int .i32 r] 21 (0, 0))
  rw [hW] at cv1 c2
  have cvb := CVB.out W2 c2
  clear cv b1
  go_wp2_with fail
  have hcb := fun W => run_bytes_of_string (P := Tryd.prog) W 9 22 5 S Tryd.underlying9 Tryd.underlying22 Tryd.underlying5
  clear cvb cv1 hS hz1 hz2 hW
  have hRR : (R == R) = true := by simp
  have CV := CVB.out
  go_region_with
    (first
      | (go_at_call 14; with_reducible refine (uright_to S true HSR.out _ HSZ.out).mono ?_; rintro e w5 ⟨rfl, b5⟩; have c5 := c2.drew.trans (b5.mono c2.drew.size))
      | (go_at_call 14; with_reducible refine (uright_to z2 R HZR.out _ HZZ.out).mono ?_; rintro e w7 ⟨rfl, b7⟩; have c7 := c6.trans (b7.mono c6.size))
      | (go_at_call 14; with_reducible refine (uright_to Bs R HBR.out _ HBZ.out).mono ?_; rintro e w8 ⟨rfl, b8⟩; have c8 := c7.trans (b8.mono c7.size))
      | (go_at_call 10; refine (text_to S _ HST.out _ _ _ _ (isB_made _ _ _ _) HTZ.out (Utf8Tabs_below HT.out (c5.drew.alloc c5.drew.size _))).mono ?_; rintro e w6 ⟨rfl, b6⟩; have c6 := (c5.drew.alloc c5.drew.size _).trans (b6.mono (c5.drew.alloc c5.drew.size _).size)))
  all_goals go_wp2
  all_goals go_ret
  all_goals exact ⟨rfl, c8⟩

set_option maxHeartbeats 2000000 in
theorem walk (w : World) (hT : Tabs w) (r : Int) (wr : (Lit.int .i32 r).wf = true) (a : Option Addr) (len cap : Nat) (l : List UInt8) (hB : IsB w a len l) (hlc : len ≤ cap) (hm : cap ≤ maxLen) (hn : a = none → cap = 0) :
    Calls Tryd.prog 9 #[.int .i32 r, .slice a len cap] w fun e w' => e = .returned (.bool true) ∧ Below w.heap.size w w' := by
  unfold maxLen at hm
  by_cases hs : 20000 < len
  · have hd : decide ((20000 : Int) < (len : Int)) = true := by simp; omega
    have HK := hid (known_any w hT)
    clear hT hB hn
    go_enter Tryd.func9, Tryd.ntmps9
    go_wp2_with fail
    refine HK.out.mono ?_
    rintro e w1 ⟨rfl, b1⟩
    go_wp2
    go_ret
    exact ⟨rfl, b1⟩
  by_cases hc : r = 0 ∨ r = 65279
  · exact walk_two w hT r wr a len cap l hB hlc hm hn hs hc
  · exact walk_rest w hT r wr a len cap l hB hlc hm hn hs hc
end Go.Proofs.YtjliphkpmpcjaaaDoor.utfOne
