/- The walk of the statement NoteBack. -/
import Derived.Test.YtinioghpghcdiaaDoorFrameN
import Derived.Test.YtinioghpghcdiaaDoorNoteRow
import Derived.Test.YtinioghpghcdiaaDoorNoteHas
namespace Go.Proofs.YtinioghpghcdiaaDoor.noteBack
open Go.ChangeShapes Go.WideShapes Go.ChangeAt Go.RowKit Go.Lib
open Go.ChangeMaps (open_string shut_string)
set_option maxRecDepth 100000
set_option linter.unusedVariables false

theorem bs_append (a b : ByteArray) : (a ++ b).data.toList = a.data.toList ++ b.data.toList := by
  show (a ++ b).data.toList = _
  rw [ByteArray.data_append, Array.toList_append]
theorem good_read (s p : ByteArray) (hs : s.size ≤ 3000) (hp : p.size ≤ 3000) (h3 : Note.hasB s.data.toList [45, 45, 62] = false) (h4 : Note.hasB s.data.toList [45, 45, 33, 62] = false) (h0 : s.data.toList[0]? ≠ some 62) (hl : s.data.toList[s.data.toList.length - 1]? ≠ some 45) (h5 : hasPrefix s.data.toList [45, 62] = false) (h6 : hasSuffix s.data.toList [45, 45, 33] = false) (W : World) (hW : NoteW W) :
    Calls Tryd.prog 7 #[.string ((⟨#[60, 33, 45, 45]⟩ : ByteArray) ++ s ++ (⟨#[45, 45, 62]⟩ : ByteArray) ++ p), .int .i64 0, .bool false] W fun e w' => e = .returned (.tuple #[.agg #[.int .u8 4, .string ⟨#[]⟩, .slice none 0 0, .bool false, .string s], .int .i64 ((s.size : Int) + 7)]) ∧ Below W.heap.size W w' := by
  have hl2 : ((⟨#[60, 33, 45, 45]⟩ : ByteArray) ++ s ++ (⟨#[45, 45, 62]⟩ : ByteArray) ++ p).data.toList = [60, 33, 45, 45] ++ (s.data.toList ++ ([45, 45, 62] ++ p.data.toList)) := by
    rw [bs_append, bs_append, bs_append]
    simp only [List.append_assoc]
  obtain ⟨hb, hf⟩ := Note.first_back s.data.toList p.data.toList (has_none h3 (by decide)) (has_none h4 (by decide)) h0 hl h5 h6
  have hsz : ((⟨#[60, 33, 45, 45]⟩ : ByteArray) ++ s ++ (⟨#[45, 45, 62]⟩ : ByteArray) ++ p).size ≤ 1000000 := by
    rw [ByteArray.size_append, ByteArray.size_append, ByteArray.size_append]
    show 4 + s.size + 3 + p.size ≤ 1000000
    omega
  refine (nk_at (K := 4) (t := s.data.toList) (m := s.data.toList.length + 7) W hW hsz ?_ ?_).mono fun e w' ⟨h1, h2⟩ => ⟨?_, h2⟩
  · rw [hl2]
    exact hb
  · rw [hl2]
    exact hf
  · rw [h1, bs_same, size_list]
    rfl
theorem at_of {s : ByteArray} {k : Nat} (h : k < s.size) : s.data.toList[k]? = some (s[k]'h) := by
  rw [List.getElem?_eq_getElem (by rw [size_list]; exact h)]
  rfl
theorem pre_short {l : List UInt8} (h : l.length ≤ 1) : hasPrefix l [45, 62] = false := by
  cases hc : hasPrefix l [45, 62] with
  | false => rfl
  | true =>
    have := (List.isPrefixOf_iff_prefix.1 hc).length_le
    simp at this
    omega
theorem suf_little {l : List UInt8} (h : l.length ≤ 2) : hasSuffix l [45, 45, 33] = false := by
  cases hc : hasSuffix l [45, 45, 33] with
  | false => rfl
  | true =>
    have := Note.suf_len hc
    simp at this
    omega
set_option maxHeartbeats 4000000 in
theorem walk (w : World) (hT : NoteW w) (s : ByteArray) (ws : s.size ≤ maxLen) (p : ByteArray) (wp : p.size ≤ maxLen) :
    Calls Tryd.prog 5 #[.string s, .string p] w fun e w' => e = .returned (.bool true) ∧ Below w.heap.size w w' := by
  unfold maxLen at ws wp
  have HT := hid hT
  have HK := hid known7_any
  by_cases hs : 3000 < s.size
  · have hd : decide ((3000 : Int) < (s.size : Int)) = true := by simp; omega
    clear hT
    go_enter Tryd.func5, Tryd.ntmps5
    go_wp2_with fail
    refine (HK.out _ HT.out).mono ?_
    rintro e w1 ⟨rfl, b1⟩
    go_wp2
    go_ret
    exact ⟨rfl, b1⟩
  have hd : decide ((3000 : Int) < (s.size : Int)) = false := by simp; omega
  by_cases hp : 3000 < p.size
  · have hd2 : decide ((3000 : Int) < (p.size : Int)) = true := by simp; omega
    clear hT
    go_enter Tryd.func5, Tryd.ntmps5
    go_wp2_with fail
    refine (HK.out _ HT.out).mono ?_
    rintro e w1 ⟨rfl, b1⟩
    go_wp2
    go_ret
    exact ⟨rfl, b1⟩
  have hd2 : decide ((3000 : Int) < (p.size : Int)) = false := by simp; omega
  have hsl := size_list s
  have A1 := fun W => nhas_any s ⟨#[45, 45, 62]⟩ W (by omega) (by decide)
  have A2 := fun W => nhas_any s ⟨#[45, 45, 33, 62]⟩ W (by omega) (by decide)
  rw [show (⟨#[45, 45, 62]⟩ : ByteArray).data.toList = [45, 45, 62] from rfl] at A1
  rw [show (⟨#[45, 45, 33, 62]⟩ : ByteArray).data.toList = [45, 45, 33, 62] from rfl] at A2
  cases hb1 : Note.hasB s.data.toList [45, 45, 62] with
  | true =>
    rw [hb1] at A1
    have A1 := hid A1
    clear hb1 hT hsl A2
    go_enter Tryd.func5, Tryd.ntmps5
    go_wp2_with fail
    refine (HK.out _ HT.out).mono ?_
    rintro e w1 ⟨rfl, b1⟩
    go_wp2_with fail
    refine (A1.out _).mono ?_
    rintro e w2 ⟨rfl, rfl⟩
    go_wp2
    go_ret
    exact ⟨rfl, b1⟩
  | false =>
    rw [hb1] at A1
    have A1 := hid A1
    cases hb2 : Note.hasB s.data.toList [45, 45, 33, 62] with
    | true =>
      rw [hb2] at A2
      have A2 := hid A2
      clear hb1 hb2 hT hsl
      go_enter Tryd.func5, Tryd.ntmps5
      go_wp2_with fail
      refine (HK.out _ HT.out).mono ?_
      rintro e w1 ⟨rfl, b1⟩
      go_wp2_with fail
      refine (A1.out _).mono ?_
      rintro e w2 ⟨rfl, rfl⟩
      go_wp2_with fail
      refine (A2.out _).mono ?_
      rintro e w2 ⟨rfl, rfl⟩
      go_wp2
      go_ret
      exact ⟨rfl, b1⟩
    | false =>
      rw [hb2] at A2
      have A2 := hid A2
      by_cases n0 : s.size = 0
      · have v0 : decide ((0 : Int) < (s.size : Int)) = false := decide_eq_false (by omega)
        have v0N : decide (0 < s.size) = false := decide_eq_false (by omega)
        have v1 : decide ((1 : Int) < (s.size : Int)) = false := decide_eq_false (by omega)
        have v1N : decide (1 < s.size) = false := decide_eq_false (by omega)
        have v2 : decide ((2 : Int) < (s.size : Int)) = false := decide_eq_false (by omega)
        have v2N : decide (2 < s.size) = false := decide_eq_false (by omega)
        have hG := good_read s p (by omega) (by omega) hb1 hb2 (by rw [List.getElem?_eq_none (by omega)]; exact fun e => by cases e) (by rw [List.getElem?_eq_none (by omega)]; exact fun e => by cases e) (pre_short (by omega)) (suf_little (by omega))
        obtain ⟨Y, hY⟩ : ∃ Y, (⟨#[60, 33, 45, 45]⟩ : ByteArray) ++ s ++ (⟨#[45, 45, 62]⟩ : ByteArray) ++ p = Y := ⟨_, rfl⟩
        rw [hY] at hG
        have HY := hid hY
        have HG := hid hG
        have m1 : ¬ 9223372036854775807 < 4 + s.size := by omega
        have m2 : ¬ 9223372036854775807 < 4 + s.size + 3 := by omega
        have m3 : ¬ 9223372036854775807 < 4 + s.size + 3 + p.size := by omega
        have z1 : ((⟨#[60, 33, 45, 45]⟩ : ByteArray) ++ s).size = 4 + s.size := by rw [ByteArray.size_append]; rfl
        have z2 : ((⟨#[60, 33, 45, 45]⟩ : ByteArray) ++ s ++ (⟨#[45, 45, 62]⟩ : ByteArray)).size = 4 + s.size + 3 := by rw [ByteArray.size_append, z1]; rfl
        have g1 : ((s.size : Int) + 7 == (s.size : Int) + 7) = true := by simp
        have N0 := hid n0
        clear hb1 hb2 hT hsl hG hY n0
        go_enter Tryd.func5, Tryd.ntmps5
        go_wp2_with fail
        refine (HK.out _ HT.out).mono ?_
        rintro e w1 ⟨rfl, b1⟩
        go_wp2_with fail
        refine (A1.out _).mono ?_
        rintro e w2 ⟨rfl, rfl⟩
        go_wp2_with fail
        refine (A2.out _).mono ?_
        rintro e w2 ⟨rfl, rfl⟩
        have HT1 := hid (note_below HT.out b1)
        go_wp2_with fail
        rw [HY.out]
        refine (HG.out _ HT1.out).mono ?_
        rintro e w2 ⟨rfl, b2⟩
        have Z := BlkW.new w2 #[.int .u8 4, .string ⟨#[]⟩, .slice none 0 0, .bool false, .string s] 24
        have B := hid ((b1.trans (b2.mono b1.size)).alloc (b1.trans (b2.mono b1.size)).size (.cells #[.int .u8 4, .string ⟨#[]⟩, .slice none 0 0, .bool false, .string s] 24))
        have p0 := Z.cell 0
        have p4 := Z.cell 4
        simp only [List.getElem?_toArray, List.getElem?_cons_zero, List.getElem?_cons_succ] at p0 p4
        clear Z b1 b2
        go_wp2
        go_ret
        exact ⟨ret_bool' (by simp), B.out⟩
      have i0 : 0 < s.size := by omega
      have v0 : decide ((0 : Int) < (s.size : Int)) = true := decide_eq_true (by omega)
      have v0N : decide (0 < s.size) = true := decide_eq_true (by omega)
      have v0I : (0 : Int) < (s.size : Int) := by omega
      have hx0 := at_of i0
      obtain ⟨c, hc⟩ : ∃ c, s[0]'i0 = c := ⟨_, rfl⟩
      rw [hc] at hx0
      have hc256 := c.toNat_lt
      obtain ⟨l, hl⟩ : ∃ l, s.size - 1 = l := ⟨_, rfl⟩
      have il : l < s.size := by omega
      have hxl := at_of il
      obtain ⟨d, hdl⟩ : ∃ d, s[l]'il = d := ⟨_, rfl⟩
      rw [hdl] at hxl
      have hd256 := d.toNat_lt
      have u0 : (s.size : Int) - 1 = (l : Int) := by omega
      have u1 : ((l : Int)).toNat = l := by omega
      have u2 : (0 : Int) ≤ (l : Int) := by omega
      have u3 : (l : Int) < (s.size : Int) := by omega
      by_cases x0 : c.toNat = 62
      · have y0 : (((c.toNat : Nat) : Int) == 62) = true := by rw [x0]; rfl
        clear hb1 hb2 hT hsl hx0 hxl x0 hl
        go_enter Tryd.func5, Tryd.ntmps5
        go_wp2_with fail
        refine (HK.out _ HT.out).mono ?_
        rintro e w1 ⟨rfl, b1⟩
        go_wp2_with fail
        refine (A1.out _).mono ?_
        rintro e w2 ⟨rfl, rfl⟩
        go_wp2_with fail
        refine (A2.out _).mono ?_
        rintro e w2 ⟨rfl, rfl⟩
        go_wp2
        go_ret
        exact ⟨rfl, b1⟩
      have y0 : (((c.toNat : Nat) : Int) == 62) = false := by simp; omega
      have hn0 : s.data.toList[0]? ≠ some 62 := by
        rw [hx0]
        intro e
        exact x0 (congrArg UInt8.toNat (Option.some.inj e))
      by_cases x1 : d.toNat = 45
      · have y1 : (((d.toNat : Nat) : Int) == 45) = true := by rw [x1]; rfl
        have HL := hid hl
        clear hb1 hb2 hT hsl hx0 hxl x0 x1 hn0 hl
        go_enter Tryd.func5, Tryd.ntmps5
        go_wp2_with fail
        refine (HK.out _ HT.out).mono ?_
        rintro e w1 ⟨rfl, b1⟩
        go_wp2_with fail
        refine (A1.out _).mono ?_
        rintro e w2 ⟨rfl, rfl⟩
        go_wp2_with fail
        refine (A2.out _).mono ?_
        rintro e w2 ⟨rfl, rfl⟩
        go_wp2
        go_ret
        exact ⟨rfl, b1⟩
      have y1 : (((d.toNat : Nat) : Int) == 45) = false := by simp; omega
      have hnl : s.data.toList[s.data.toList.length - 1]? ≠ some 45 := by
        rw [hsl, hl, hxl]
        intro e
        exact x1 (congrArg UInt8.toNat (Option.some.inj e))
      have HL := hid hl
      clear hx0 hxl x0 x1 hl
      by_cases n1 : s.size ≤ 1
      · have v1 : decide ((1 : Int) < (s.size : Int)) = false := decide_eq_false (by omega)
        have v1N : decide (1 < s.size) = false := decide_eq_false (by omega)
        have v2 : decide ((2 : Int) < (s.size : Int)) = false := decide_eq_false (by omega)
        have v2N : decide (2 < s.size) = false := decide_eq_false (by omega)
        have hG := good_read s p (by omega) (by omega) hb1 hb2 hn0 hnl (pre_short (by omega)) (suf_little (by omega))
        obtain ⟨Y, hY⟩ : ∃ Y, (⟨#[60, 33, 45, 45]⟩ : ByteArray) ++ s ++ (⟨#[45, 45, 62]⟩ : ByteArray) ++ p = Y := ⟨_, rfl⟩
        rw [hY] at hG
        have HY := hid hY
        have HG := hid hG
        have m1 : ¬ 9223372036854775807 < 4 + s.size := by omega
        have m2 : ¬ 9223372036854775807 < 4 + s.size + 3 := by omega
        have m3 : ¬ 9223372036854775807 < 4 + s.size + 3 + p.size := by omega
        have z1 : ((⟨#[60, 33, 45, 45]⟩ : ByteArray) ++ s).size = 4 + s.size := by rw [ByteArray.size_append]; rfl
        have z2 : ((⟨#[60, 33, 45, 45]⟩ : ByteArray) ++ s ++ (⟨#[45, 45, 62]⟩ : ByteArray)).size = 4 + s.size + 3 := by rw [ByteArray.size_append, z1]; rfl
        have g1 : ((s.size : Int) + 7 == (s.size : Int) + 7) = true := by simp
        clear hb1 hb2 hT hsl hG hY hn0 hnl
        go_enter Tryd.func5, Tryd.ntmps5
        go_wp2_with fail
        refine (HK.out _ HT.out).mono ?_
        rintro e w1 ⟨rfl, b1⟩
        go_wp2_with fail
        refine (A1.out _).mono ?_
        rintro e w2 ⟨rfl, rfl⟩
        go_wp2_with fail
        refine (A2.out _).mono ?_
        rintro e w2 ⟨rfl, rfl⟩
        have HT1 := hid (note_below HT.out b1)
        go_wp2_with fail
        rw [HY.out]
        refine (HG.out _ HT1.out).mono ?_
        rintro e w2 ⟨rfl, b2⟩
        have Z := BlkW.new w2 #[.int .u8 4, .string ⟨#[]⟩, .slice none 0 0, .bool false, .string s] 24
        have B := hid ((b1.trans (b2.mono b1.size)).alloc (b1.trans (b2.mono b1.size)).size (.cells #[.int .u8 4, .string ⟨#[]⟩, .slice none 0 0, .bool false, .string s] 24))
        have p0 := Z.cell 0
        have p4 := Z.cell 4
        simp only [List.getElem?_toArray, List.getElem?_cons_zero, List.getElem?_cons_succ] at p0 p4
        clear Z b1 b2
        go_wp2
        go_ret
        exact ⟨ret_bool' (by simp), B.out⟩
      have v1 : decide ((1 : Int) < (s.size : Int)) = true := decide_eq_true (by omega)
      have v1N : decide (1 < s.size) = true := decide_eq_true (by omega)
      have v1I : (2 : Int) ≤ (s.size : Int) := by omega
      have hp2 : ((s.extract 0 2).toList == [45, 62]) = hasPrefix s.data.toList [45, 62] := by
        have := pre_take (l := s.data.toList) (t := [45, 62]) (n := 0) (by rw [hsl]; show 0 + 2 ≤ _; omega)
        rw [List.drop_zero] at this
        rw [this, ext_mid]
        rfl
      cases h5 : hasPrefix s.data.toList [45, 62] with
      | true =>
        rw [h5] at hp2
        clear hb1 hb2 hT hsl hn0 hnl h5
        go_enter Tryd.func5, Tryd.ntmps5
        go_wp2_with fail
        refine (HK.out _ HT.out).mono ?_
        rintro e w1 ⟨rfl, b1⟩
        go_wp2_with fail
        refine (A1.out _).mono ?_
        rintro e w2 ⟨rfl, rfl⟩
        go_wp2_with fail
        refine (A2.out _).mono ?_
        rintro e w2 ⟨rfl, rfl⟩
        go_wp2
        go_ret
        exact ⟨rfl, b1⟩
      | false =>
        rw [h5] at hp2
        by_cases n2 : s.size ≤ 2
        · have v2 : decide ((2 : Int) < (s.size : Int)) = false := decide_eq_false (by omega)
          have v2N : decide (2 < s.size) = false := decide_eq_false (by omega)
          have hG := good_read s p (by omega) (by omega) hb1 hb2 hn0 hnl h5 (suf_little (by omega))
          obtain ⟨Y, hY⟩ : ∃ Y, (⟨#[60, 33, 45, 45]⟩ : ByteArray) ++ s ++ (⟨#[45, 45, 62]⟩ : ByteArray) ++ p = Y := ⟨_, rfl⟩
          rw [hY] at hG
          have HY := hid hY
          have HG := hid hG
          have m1 : ¬ 9223372036854775807 < 4 + s.size := by omega
          have m2 : ¬ 9223372036854775807 < 4 + s.size + 3 := by omega
          have m3 : ¬ 9223372036854775807 < 4 + s.size + 3 + p.size := by omega
          have z1 : ((⟨#[60, 33, 45, 45]⟩ : ByteArray) ++ s).size = 4 + s.size := by rw [ByteArray.size_append]; rfl
          have z2 : ((⟨#[60, 33, 45, 45]⟩ : ByteArray) ++ s ++ (⟨#[45, 45, 62]⟩ : ByteArray)).size = 4 + s.size + 3 := by rw [ByteArray.size_append, z1]; rfl
          have g1 : ((s.size : Int) + 7 == (s.size : Int) + 7) = true := by simp
          clear hb1 hb2 hT hsl hG hY hn0 hnl h5
          go_enter Tryd.func5, Tryd.ntmps5
          go_wp2_with fail
          refine (HK.out _ HT.out).mono ?_
          rintro e w1 ⟨rfl, b1⟩
          go_wp2_with fail
          refine (A1.out _).mono ?_
          rintro e w2 ⟨rfl, rfl⟩
          go_wp2_with fail
          refine (A2.out _).mono ?_
          rintro e w2 ⟨rfl, rfl⟩
          have HT1 := hid (note_below HT.out b1)
          go_wp2_with fail
          rw [HY.out]
          refine (HG.out _ HT1.out).mono ?_
          rintro e w2 ⟨rfl, b2⟩
          have Z := BlkW.new w2 #[.int .u8 4, .string ⟨#[]⟩, .slice none 0 0, .bool false, .string s] 24
          have B := hid ((b1.trans (b2.mono b1.size)).alloc (b1.trans (b2.mono b1.size)).size (.cells #[.int .u8 4, .string ⟨#[]⟩, .slice none 0 0, .bool false, .string s] 24))
          have p0 := Z.cell 0
          have p4 := Z.cell 4
          simp only [List.getElem?_toArray, List.getElem?_cons_zero, List.getElem?_cons_succ] at p0 p4
          clear Z b1 b2
          go_wp2
          go_ret
          exact ⟨ret_bool' (by simp), B.out⟩
        have v2 : decide ((2 : Int) < (s.size : Int)) = true := decide_eq_true (by omega)
        have v2N : decide (2 < s.size) = true := decide_eq_true (by omega)
        obtain ⟨g, hg⟩ : ∃ g, s.size - 3 = g := ⟨_, rfl⟩
        have gu0 : (s.size : Int) - 3 = (g : Int) := by omega
        have gu1 : ((g : Int)).toNat = g := by omega
        have gu2 : (0 : Int) ≤ (g : Int) := by omega
        have gu3 : (g : Int) ≤ (s.size : Int) := by omega
        have gu4 : g ≤ s.size := by omega
        have hp3 : ((s.extract g s.size).toList == [45, 45, 33]) = hasSuffix s.data.toList [45, 45, 33] := by
          rw [suf_drop (by rw [hsl]; show 3 ≤ _; omega), ByteArray.toList_eq, extract_drop, hsl, ← hg]
          rfl
        have HGG := hid hg
        clear hg
        cases h6 : hasSuffix s.data.toList [45, 45, 33] with
        | true =>
          rw [h6] at hp3
          clear hb1 hb2 hT hsl hn0 hnl h5 h6
          go_enter Tryd.func5, Tryd.ntmps5
          go_wp2_with fail
          refine (HK.out _ HT.out).mono ?_
          rintro e w1 ⟨rfl, b1⟩
          go_wp2_with fail
          refine (A1.out _).mono ?_
          rintro e w2 ⟨rfl, rfl⟩
          go_wp2_with fail
          refine (A2.out _).mono ?_
          rintro e w2 ⟨rfl, rfl⟩
          go_wp2
          go_ret
          exact ⟨rfl, b1⟩
        | false =>
          rw [h6] at hp3
          have hG := good_read s p (by omega) (by omega) hb1 hb2 hn0 hnl h5 h6
          obtain ⟨Y, hY⟩ : ∃ Y, (⟨#[60, 33, 45, 45]⟩ : ByteArray) ++ s ++ (⟨#[45, 45, 62]⟩ : ByteArray) ++ p = Y := ⟨_, rfl⟩
          rw [hY] at hG
          have HY := hid hY
          have HG := hid hG
          have m1 : ¬ 9223372036854775807 < 4 + s.size := by omega
          have m2 : ¬ 9223372036854775807 < 4 + s.size + 3 := by omega
          have m3 : ¬ 9223372036854775807 < 4 + s.size + 3 + p.size := by omega
          have z1 : ((⟨#[60, 33, 45, 45]⟩ : ByteArray) ++ s).size = 4 + s.size := by rw [ByteArray.size_append]; rfl
          have z2 : ((⟨#[60, 33, 45, 45]⟩ : ByteArray) ++ s ++ (⟨#[45, 45, 62]⟩ : ByteArray)).size = 4 + s.size + 3 := by rw [ByteArray.size_append, z1]; rfl
          have g1 : ((s.size : Int) + 7 == (s.size : Int) + 7) = true := by simp
          clear hb1 hb2 hT hsl hG hY hn0 hnl h5 h6
          go_enter Tryd.func5, Tryd.ntmps5
          go_wp2_with fail
          refine (HK.out _ HT.out).mono ?_
          rintro e w1 ⟨rfl, b1⟩
          go_wp2_with fail
          refine (A1.out _).mono ?_
          rintro e w2 ⟨rfl, rfl⟩
          go_wp2_with fail
          refine (A2.out _).mono ?_
          rintro e w2 ⟨rfl, rfl⟩
          have HT1 := hid (note_below HT.out b1)
          go_wp2_with fail
          rw [HY.out]
          refine (HG.out _ HT1.out).mono ?_
          rintro e w2 ⟨rfl, b2⟩
          have Z := BlkW.new w2 #[.int .u8 4, .string ⟨#[]⟩, .slice none 0 0, .bool false, .string s] 24
          have B := hid ((b1.trans (b2.mono b1.size)).alloc (b1.trans (b2.mono b1.size)).size (.cells #[.int .u8 4, .string ⟨#[]⟩, .slice none 0 0, .bool false, .string s] 24))
          have p0 := Z.cell 0
          have p4 := Z.cell 4
          simp only [List.getElem?_toArray, List.getElem?_cons_zero, List.getElem?_cons_succ] at p0 p4
          clear Z b1 b2
          go_wp2
          go_ret
          exact ⟨ret_bool' (by simp), B.out⟩
end Go.Proofs.YtinioghpghcdiaaDoor.noteBack
