/- Walks: the statements of layer 8 over what the program's Text is known to tell (RawC): 'known', RawTexts, RawParts, RawSize. EW: what the program's variables hold. -/
import Derived.Test.YtlikpmmkfjghbaaDoorRawC
import Derived.Test.YtlikpmmkfjghbaaDoorRefRawT
namespace Go.Proofs.YtlikpmmkfjghbaaDoor
open Go.RowKit Go.Lib
set_option maxRecDepth 100000
set_option linter.unusedVariables false

theorem raw_at0 {EW : World → Prop} (HC : RawC EW) {s name : ByteArray} {m k : Nat} {t : List UInt8} (w : World) (hW : EW w) (hs : s.size ≤ 400000) (hn : name.size ≤ 400000) (h1 : 1 ≤ m) (h4 : m ≤ 4) (hk : Raw.far (Raw.smallN name.data.toList) m s.data.toList = k) (ht : Raw.textOf m (s.data.toList.take k) = t) :
    Calls Tryd.prog 6 #[.string s, .int .i64 0, .string name, .int .u8 m] w fun e w' => e = .returned (.tuple #[.string (bs t), .int .i64 k]) ∧ Below w.heap.size w w' :=
  (HC s name 0 m w hW hs hn (by omega) (by omega)).mono fun e w' ⟨e1, e2⟩ => ⟨by
    have hv := rawV_yes (l := s.data.toList) (small := Raw.smallN name.data.toList) (n := 0) (mode := m) (k := k) (Nat.zero_le _) h1 h4 (by rw [List.drop_zero]; exact hk)
    rw [List.drop_zero, ht] at hv
    rw [e1, show (0 : Int) = ((0 : Nat) : Int) from rfl, hv, show (((0 : Nat) : Int) + (k : Int)) = (k : Int) by omega], e2⟩
theorem kr_one {EW : World → Prop} (HC : RawC EW) (w : World) (hW : EW w) : Calls Tryd.prog 6 #[.string ⟨#[97, 60, 47, 98, 62, 60, 47, 66, 32, 120, 62]⟩, .int .i64 0, .string ⟨#[98]⟩, .int .u8 2] w fun e w' => e = .returned (.tuple #[.string ⟨#[97]⟩, .int .i64 1]) ∧ Below w.heap.size w w' :=
  raw_at0 HC (s := ⟨#[97, 60, 47, 98, 62, 60, 47, 66, 32, 120, 62]⟩) (name := ⟨#[98]⟩) (m := 2) (k := 1) (t := [97]) w hW (by decide) (by decide) (by decide) (by decide) (by decide +kernel) (by decide +kernel)
theorem kr_two {EW : World → Prop} (HC : RawC EW) (w : World) (hW : EW w) : Calls Tryd.prog 6 #[.string ⟨#[38, 108, 116, 59, 60, 47, 116, 105, 116, 108, 101, 115, 62, 60, 47, 116, 105, 116, 108, 101, 62]⟩, .int .i64 0, .string ⟨#[116, 105, 116, 108, 101]⟩, .int .u8 1] w fun e w' => e = .returned (.tuple #[.string ⟨#[60, 60, 47, 116, 105, 116, 108, 101, 115, 62]⟩, .int .i64 13]) ∧ Below w.heap.size w w' :=
  raw_at0 HC (s := ⟨#[38, 108, 116, 59, 60, 47, 116, 105, 116, 108, 101, 115, 62, 60, 47, 116, 105, 116, 108, 101, 62]⟩) (name := ⟨#[116, 105, 116, 108, 101]⟩) (m := 1) (k := 13) (t := [60, 60, 47, 116, 105, 116, 108, 101, 115, 62]) w hW (by decide) (by decide) (by decide) (by decide) (by decide +kernel) (by decide +kernel)
theorem kr_three {EW : World → Prop} (HC : RawC EW) (w : World) (hW : EW w) : Calls Tryd.prog 6 #[.string ⟨#[60, 33, 45, 45, 60, 115, 99, 114, 105, 112, 116, 62, 60, 47, 115, 99, 114, 105, 112, 116, 62, 45, 45, 62, 60, 47, 115, 99, 114, 105, 112, 116, 62]⟩, .int .i64 0, .string ⟨#[115, 99, 114, 105, 112, 116]⟩, .int .u8 3] w fun e w' => (∃ x, e = .returned (.tuple #[.string x, .int .i64 24])) ∧ Below w.heap.size w w' :=
  (raw_at0 HC (s := ⟨#[60, 33, 45, 45, 60, 115, 99, 114, 105, 112, 116, 62, 60, 47, 115, 99, 114, 105, 112, 116, 62, 45, 45, 62, 60, 47, 115, 99, 114, 105, 112, 116, 62]⟩) (name := ⟨#[115, 99, 114, 105, 112, 116]⟩) (m := 3) (k := 24) w hW (by decide) (by decide) (by decide) (by decide) (by decide +kernel) rfl).mono fun e w' ⟨h1, h2⟩ => ⟨⟨_, h1⟩, h2⟩
set_option maxHeartbeats 2000000 in
theorem known8_any {EW : World → Prop} (HC : RawC EW) (HB : KeepsW EW) (w : World) (hT : EW w) : Calls Tryd.prog 8 #[] w fun e w' => e = .returned (.bool true) ∧ Below w.heap.size w w' := by
  have HT := hid hT
  have K1 := hid (kr_one HC)
  have K2 := hid (kr_two HC)
  have K3 := hid (kr_three HC)
  have HBB := hid HB
  clear hT HC HB
  go_enter Tryd.func8, Tryd.ntmps8
  go_wp2_with fail
  refine (K1.out _ HT.out).mono ?_
  rintro e w1 ⟨rfl, b1⟩
  have HT1 := hid (HBB.out _ _ HT.out b1)
  go_wp2_with fail
  refine (K2.out _ HT1.out).mono ?_
  rintro e w2 ⟨rfl, b2⟩
  have HT2 := hid (HBB.out _ _ HT1.out b2)
  have B2 := hid (b1.trans (b2.mono b1.size))
  clear b1 b2
  go_wp2_with fail
  refine (K3.out _ HT2.out).mono ?_
  rintro e w3 ⟨⟨x, rfl⟩, b3⟩
  have B3 := hid (B2.out.trans (b3.mono B2.out.size))
  clear b3
  go_wp2
  go_ret
  exact ⟨rfl, B3.out⟩
set_option maxHeartbeats 2000000 in
theorem rtexts_any {EW : World → Prop} (HC : RawC EW) (HB : KeepsW EW) (s name : ByteArray) (i : Int) (m : Nat) (w : World) (hT : EW w) (ws : s.size ≤ maxLen) (wn : name.size ≤ maxLen) (hm : m < 256) (hi : -9223372036854775808 ≤ i ∧ i ≤ 9223372036854775807) :
    Calls Tryd.prog 3 #[.string s, .int .i64 i, .string name, .int .u8 m] w fun e w' => e = .returned (.bool true) ∧ Below w.heap.size w w' := by
  unfold maxLen at ws wn
  have HT := hid hT
  by_cases hs : 3000 < s.size
  · have hd : decide ((3000 : Int) < (s.size : Int)) = true := by simp; omega
    clear hT HC HB
    go_enter Tryd.func3, Tryd.ntmps3
    go_wp2
    go_ret
    exact ⟨rfl, Below.refl _ _⟩
  have hd : decide ((3000 : Int) < (s.size : Int)) = false := by simp; omega
  by_cases hn : 3000 < name.size
  · have hd2 : decide ((3000 : Int) < (name.size : Int)) = true := by simp; omega
    clear hT HC HB
    go_enter Tryd.func3, Tryd.ntmps3
    go_wp2
    go_ret
    exact ⟨rfl, Below.refl _ _⟩
  have hd2 : decide ((3000 : Int) < (name.size : Int)) = false := by simp; omega
  have H1 := fun W hW => HC s name i m W hW (by omega) (by omega) hm hi
  have H2 := fun W => rtext_any s name i m W (by omega) (by omega) hm
  obtain ⟨X, n, hE⟩ := rawV_form s.data.toList i (Raw.smallN name.data.toList) m
  rw [hE] at H1 H2
  have H1 := hid H1
  have H2 := hid H2
  have HK := hid (known8_any HC HB)
  have HBB := hid HB
  clear hT HC HB hE
  go_enter Tryd.func3, Tryd.ntmps3
  go_wp2_with fail
  refine (H1.out _ HT.out).mono ?_
  rintro e w1 ⟨rfl, b1⟩
  go_wp2_with fail
  refine (H2.out _).mono ?_
  rintro e w2 ⟨rfl, b2⟩
  have B2 := hid (b1.trans (b2.mono b1.size))
  have HT2 := hid (HBB.out _ _ HT.out B2.out)
  clear b1 b2
  go_wp2_with fail
  refine (HK.out _ HT2.out).mono ?_
  rintro e w3 ⟨rfl, b3⟩
  have B3 := hid (B2.out.trans (b3.mono B2.out.size))
  clear b3
  go_wp2
  go_ret
  exact ⟨ret_bool' (by simp), B3.out⟩
set_option maxHeartbeats 2000000 in
theorem rsize_any {EW : World → Prop} (HC : RawC EW) (HB : KeepsW EW) (s name : ByteArray) (i : Int) (m : Nat) (w : World) (hT : EW w) (ws : s.size ≤ maxLen) (wn : name.size ≤ maxLen) (hm : m < 256) (hi : -9223372036854775808 ≤ i ∧ i ≤ 9223372036854775807) :
    Calls Tryd.prog 5 #[.string s, .int .i64 i, .string name, .int .u8 m] w fun e w' => e = .returned (.bool true) ∧ Below w.heap.size w w' := by
  unfold maxLen at ws wn
  have HT := hid hT
  have HK := hid (known8_any HC HB)
  by_cases hs : 3000 < s.size
  · have hd : decide ((3000 : Int) < (s.size : Int)) = true := by simp; omega
    clear hT HC HB
    go_enter Tryd.func5, Tryd.ntmps5
    go_wp2_with fail
    refine (HK.out _ HT.out).mono ?_
    rintro e w1 ⟨rfl, b1⟩
    go_wp2
    go_ret
    exact ⟨rfl, b1⟩
  have hd : decide ((3000 : Int) < (s.size : Int)) = false := by simp; omega
  by_cases hn : 3000 < name.size
  · have hd2 : decide ((3000 : Int) < (name.size : Int)) = true := by simp; omega
    clear hT HC HB
    go_enter Tryd.func5, Tryd.ntmps5
    go_wp2_with fail
    refine (HK.out _ HT.out).mono ?_
    rintro e w1 ⟨rfl, b1⟩
    go_wp2
    go_ret
    exact ⟨rfl, b1⟩
  have hd2 : decide ((3000 : Int) < (name.size : Int)) = false := by simp; omega
  have hnl := size_list name
  have L := fun W => rlower_any name W (by omega)
  obtain ⟨N, hN⟩ : ∃ N : ByteArray, (⟨(lowL name.data.toList).toArray⟩ : ByteArray) = N := ⟨_, rfl⟩
  rw [hN] at L
  have hNl : N.data.toList = lowL name.data.toList := by rw [← hN]
  have hNs : N.size = name.size := by rw [← size_list, hNl, lowL_len, hnl]
  have H1 := fun W hW => HC s name i m W hW (by omega) (by omega) hm hi
  have H2 := fun W hW => HC s N i m W hW (by omega) (by omega) hm hi
  rw [hNl, Raw.small_low] at H2
  obtain ⟨X, n, hE⟩ := rawV_form s.data.toList i (Raw.smallN name.data.toList) m
  rw [hE] at H1 H2
  have L := hid L
  have H1 := hid H1
  have H2 := hid H2
  have HBB := hid HB
  clear hT HC HB hE hN hNl hNs hnl
  go_enter Tryd.func5, Tryd.ntmps5
  go_wp2_with fail
  refine (HK.out _ HT.out).mono ?_
  rintro e w1 ⟨rfl, b1⟩
  have B1 := hid b1
  have HT1 := hid (HBB.out _ _ HT.out b1)
  clear b1
  go_wp2_with fail
  refine (H1.out _ HT1.out).mono ?_
  rintro e w2 ⟨rfl, b2⟩
  have B2 := hid (B1.out.trans (b2.mono B1.out.size))
  clear b2
  go_wp2_with fail
  refine (L.out _).mono ?_
  rintro e w3 ⟨rfl, b3⟩
  have B3 := hid (B2.out.trans (b3.mono B2.out.size))
  have HT3 := hid (HBB.out _ _ HT.out B3.out)
  clear b3
  go_wp2_with fail
  refine (H2.out _ HT3.out).mono ?_
  rintro e w4 ⟨rfl, b4⟩
  have B4 := hid (B3.out.trans (b4.mono B3.out.size))
  clear b4
  go_wp2
  go_ret
  exact ⟨ret_bool' (by simp), B4.out⟩
end Go.Proofs.YtlikpmmkfjghbaaDoor
