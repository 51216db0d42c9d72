/- Walks: package lex: where markup begins next, a token of a text, what stands at a place (in four ways). Written by tools/gen_lexpc.py. -/
import Derived.Test.YtgldgdopabmefaaGreatDoorLoopK
import Derived.Test.YtgldgdopabmefaaGreatDoorNoteCom
import Derived.Test.YtgldgdopabmefaaGreatDoorTwoW
import Derived.Test.YtgldgdopabmefaaGreatDoorTagProg
import Derived.Test.YtgldgdopabmefaaGreatDoorRawProg
import Derived.Deep.LoopGhost
import Derived.Handy
namespace Go.Proofs.YtgldgdopabmefaaGreatDoor
open Go.RowKit Go.Lib
set_option maxRecDepth 100000
set_option linter.unusedVariables false

set_option maxHeartbeats 8000000 in
theorem lup_any (s : ByteArray) (j : Nat) (w : World) (hs : s.size ≤ 300000) (hj : j ≤ s.size) :
    Calls Tryz.prog 33 #[.string s, .int .i64 j] w fun e w' => e = .returned (.int .i64 (Lex.upM s.data.toList j)) ∧ w = w' := by
  have HSL := hid (size_list s)
  obtain ⟨E, hE⟩ : ∃ E, Lex.upM s.data.toList j = E := ⟨_, rfl⟩
  rw [hE]
  have H0 := hid hE
  have HB := hid fun (k : Nat) (hk : k ≤ 300000) W => cbegins_any s k W (by omega) (by omega)
  have HC := hid fun (k : Nat) (hk : k ≤ 300000) W => nbegins_any s k W (by omega) (by omega)
  clear hE
  go_enter Tryz.func33, Tryz.ntmps33
  go_wp2
  go_loopg [1] (s.size - j) (fun g iv wr => ∃ k : Nat, j ≤ k ∧ k ≤ s.size ∧ s.size - k ≤ g ∧ iv = .int .i64 k ∧ Hid (Lex.upM s.data.toList k = E) ∧ w = wr)
  case atStart => exact ⟨j, by omega, hj, Nat.le_refl _, rfl, H0, rfl⟩
  case round =>
    obtain ⟨k, hjk, hks, hg, rfl, hI, rfl⟩ := hrel
    by_cases hlt : k < s.size
    · have e1 : decide (k < s.size) = true := decide_eq_true hlt
      have hltI : (k : Int) < (s.size : Int) := by omega
      have B1 := fun W => HB.out k (by omega) W
      have C1 := fun W => HC.out k (by omega) W
      rw [begI_nat] at B1
      rw [begNI_nat] at C1
      cases ha : Tag.begB s.data.toList k with
      | true =>
        rw [ha] at B1
        have B1 := hid B1
        obtain rfl : k = E := by have h := hI.out; rw [Lex.upM_yes (by unfold Lex.markB; rw [ha]; rfl)] at h; exact h
        clear ha hI C1
        go_wp2_with fail
        refine (B1.out _).mono ?_
        rintro e w3 ⟨rfl, rfl⟩
        go_wp2
        go_ret
        exact ⟨rfl, rfl⟩
      | false =>
        rw [ha] at B1
        have B1 := hid B1
        cases hb : Note.begB (s.data.toList.drop k) with
        | true =>
          rw [hb] at C1
          have C1 := hid C1
          obtain rfl : k = E := by have h := hI.out; rw [Lex.upM_yes (by unfold Lex.markB; rw [ha, hb]; rfl)] at h; exact h
          clear ha hb hI
          go_wp2_with fail
          refine (B1.out _).mono ?_
          rintro e w3 ⟨rfl, rfl⟩
          go_wp2_with fail
          refine (C1.out _).mono ?_
          rintro e w3 ⟨rfl, rfl⟩
          go_wp2
          go_ret
          exact ⟨rfl, rfl⟩
        | false =>
          rw [hb] at C1
          have C1 := hid C1
          have HN : Hid (Lex.upM s.data.toList (k + 1) = E) := hid (by rw [← Lex.upM_no (by unfold Lex.markB; rw [ha, hb]; rfl) (by rw [HSL.out]; exact hlt)]; exact hI.out)
          clear ha hb hI
          go_wp2_with fail
          refine (B1.out _).mono ?_
          rintro e w3 ⟨rfl, rfl⟩
          go_wp2_with fail
          refine (C1.out _).mono ?_
          rintro e w3 ⟨rfl, rfl⟩
          go_wp2
          go_roundg (s.size - (k + 1))
          case measure => omega
          case rel => exact ⟨k + 1, by omega, by omega, Nat.le_refl _, by go_num, HN, rfl⟩
    · have e1 : decide (k < s.size) = false := decide_eq_false hlt
      have hltI : ¬ (k : Int) < (s.size : Int) := by omega
      obtain rfl : k = E := by have h := hI.out; rw [Lex.upM_end (by rw [HSL.out]; omega)] at h; exact h
      clear hI
      go_wp2
      go_ret
      exact ⟨rfl, rfl⟩
theorem ltok_any (t : ByteArray) (w : World) :
    Calls Tryz.prog 13 #[.string t] w fun e w' => e = .returned (.agg #[.int .u8 1, .string ⟨#[]⟩, .slice none 0 0, .bool false, .string t]) ∧ Below w.heap.size w w' := by
  go_enter Tryz.func13, Tryz.ntmps13
  go_wp2
  go_returns
  exact ⟨rfl, (Below.refl w.heap.size w).alloc (Nat.le_refl _) _⟩
set_option maxHeartbeats 8000000 in
theorem lpc_none (s : ByteArray) (j : Nat) (cd : Bool) (w : World) (hW : LexW w) (hs : s.size ≤ 300000) (hj : j < s.size) (ha : Tag.begB s.data.toList j = true) (hr : Tag.readP s.data.toList j = none) :
    Calls Tryz.prog 14 #[.string s, .int .i64 j, .bool cd] w fun e w' => LexE (Lex.last, s.size) s.size e w' ∧ Below w.heap.size w w' := by
  have HSL := hid (size_list s)
  have HW := hid hW
  have HB := fun W => cbegins_any s j W (by omega) (by omega)
  rw [begI_nat, ha] at HB
  have HB := hid HB
  have HRd := hid fun W hW => tread_new s j W hW (by omega) (by omega)
  have HA := hid ha
  have HRP := hid hr
  clear ha hr
  have R1 := BlkW.new w #[.int .u8 0, .string ⟨#[]⟩, .slice none 0 0, .bool false, .string ⟨#[]⟩] 24
  have L1 := (Below.refl w.heap.size w).alloc (Nat.le_refl _) (.cells #[.int .u8 0, .string ⟨#[]⟩, .slice none 0 0, .bool false, .string ⟨#[]⟩] 24)
  clear hW HSL
  go_enter Tryz.func14, Tryz.ntmps14
  go_wp2_with fail
  obtain ⟨W1, hW1⟩ : ∃ W1, w.alloc (.cells #[.int .u8 0, .string ⟨#[]⟩, .slice none 0 0, .bool false, .string ⟨#[]⟩] 24) = W1 := ⟨_, rfl⟩
  rw [hW1] at R1 L1 ⊢
  clear hW1
  refine (HB.out _).mono ?_
  rintro e w2 ⟨rfl, rfl⟩
  go_wp2_with fail
  refine (HRd.out _ (lex_below HW.out L1).1).mono ?_
  rintro e w4 ⟨⟨he, hnew⟩, b4⟩
  obtain rfl := readE_none he HA.out HRP.out
  clear he hnew
  have R2 := (R1.below b4 R1.lt).alloc (.cells #[.int .u8 0, .string (bs []), .slice none 0 0, .bool false, .string (bs [])] 24)
  have L2 := (L1.trans (b4.mono L1.size))
  have L3 := L2.alloc L2.size (.cells #[.int .u8 0, .string (bs []), .slice none 0 0, .bool false, .string (bs [])] 24)
  clear b4
  unfold tokV
  have r0 := R2.cell 0
  have r1 := R2.cell 1
  have r2 := R2.cell 2
  have r3 := R2.cell 3
  have r4 := R2.cell 4
  have f0 := R2.free 0
  have f1 := R2.free 1
  have f2 := R2.free 2
  have f3 := R2.free 3
  have f4 := R2.free 4
  simp only [List.getElem?_toArray, List.getElem?_cons_zero, List.getElem?_cons_succ] at r0 r1 r2 r3 r4
  obtain ⟨W7, hW7, z0, z1, z2, z3, z4, hb7, hk7⟩ := tok_store R2 L3 (Nat.le_refl _) (.int .u8 6) (.string ⟨#[]⟩) (.slice none 0 0) (.bool false) (.string ⟨#[]⟩)
  have HW7 := hid hW7
  have HB7 := hid hb7
  have ZZ := hid (And.intro z0 (And.intro z1 (And.intro z2 (And.intro z3 z4))))
  clear hW7 hb7 hk7 z0 z1 z2 z3 z4
  go_wp2
  rw [HW7.out]
  obtain ⟨z0, z1, z2, z3, z4⟩ := ZZ.out
  refine bodyPost_ret (v := .tuple #[.agg #[.int .u8 6, .string ⟨#[]⟩, .slice none 0 0, .bool false, .string ⟨#[]⟩], .int .i64 (s.size)]) (by simp [results, Tryz.results14, go_sem, z0, z1, z2, z3, z4]) rfl ?_
  exact ⟨lexE_last rfl, HB7.out⟩
set_option maxHeartbeats 8000000 in
theorem lpc_tag (s : ByteArray) (j : Nat) (cd : Bool) (w : World) (hW : LexW w) (hs : s.size ≤ 300000) (hj : j < s.size) (t : Tag.Tok) (n : Nat) (ha : Tag.begB s.data.toList j = true) (hr : Tag.readP s.data.toList j = some (t, n)) :
    Calls Tryz.prog 14 #[.string s, .int .i64 j, .bool cd] w fun e w' => LexE (Lex.ofTag t, n) s.size e w' ∧ Below w.heap.size w w' := by
  have HSL := hid (size_list s)
  have HW := hid hW
  have HB := fun W => cbegins_any s j W (by omega) (by omega)
  rw [begI_nat, ha] at HB
  have HB := hid HB
  have HRd := hid fun W hW => tread_new s j W hW (by omega) (by omega)
  have HA := hid ha
  have HRP := hid hr
  have hsz := size_list s
  obtain ⟨NM, hNM⟩ : ∃ NM, bs t.name = NM := ⟨_, rfl⟩
  have HNM := hid hNM
  clear ha hr hNM
  have R1 := BlkW.new w #[.int .u8 0, .string ⟨#[]⟩, .slice none 0 0, .bool false, .string ⟨#[]⟩] 24
  have L1 := (Below.refl w.heap.size w).alloc (Nat.le_refl _) (.cells #[.int .u8 0, .string ⟨#[]⟩, .slice none 0 0, .bool false, .string ⟨#[]⟩] 24)
  clear hW HSL
  go_enter Tryz.func14, Tryz.ntmps14
  go_wp2_with fail
  obtain ⟨W1, hW1⟩ : ∃ W1, w.alloc (.cells #[.int .u8 0, .string ⟨#[]⟩, .slice none 0 0, .bool false, .string ⟨#[]⟩] 24) = W1 := ⟨_, rfl⟩
  rw [hW1] at R1 L1 ⊢
  clear hW1
  refine (HB.out _).mono ?_
  rintro e w2 ⟨rfl, rfl⟩
  go_wp2_with fail
  refine (HRd.out _ (lex_below HW.out L1).1).mono ?_
  rintro e w4 ⟨⟨he, hnew⟩, b4⟩
  obtain ⟨a, kk, c, rfl, hIA, hk⟩ := readE_some he HA.out HRP.out
  have hty : TypB w4 a := fun x hx => by
    subst hx
    exact (hnew _ _ _ _ _ _ _ _ _ rfl).2
  clear he hnew
  unfold tokV
  rw [HNM.out]
  obtain ⟨kd, hkd⟩ : ∃ kd, t.kind = kd := ⟨_, rfl⟩
  obtain ⟨sf, hsf⟩ : ∃ sf, t.self = sf := ⟨_, rfl⟩
  rw [hkd, hsf]
  have HKD := hid hkd
  have HSF := hid hsf
  have R2 := (R1.below b4 R1.lt).alloc (.cells #[.int .u8 kd, .string NM, .slice a kk c, .bool sf, .string (bs [])] 24)
  have L2 := (L1.trans (b4.mono L1.size))
  have L3 := L2.alloc L2.size (.cells #[.int .u8 kd, .string NM, .slice a kk c, .bool sf, .string (bs [])] 24)
  have hTX := hty.below ((Below.refl w4.heap.size w4).alloc (Nat.le_refl _) (.cells #[.int .u8 kd, .string NM, .slice a kk c, .bool sf, .string (bs [])] 24))
  have hIX := hIA.below ((Below.refl w4.heap.size w4).alloc (Nat.le_refl _) (.cells #[.int .u8 kd, .string NM, .slice a kk c, .bool sf, .string (bs [])] 24))
  have XB := BlkW.new w4 #[.int .u8 kd, .string NM, .slice a kk c, .bool sf, .string (bs [])] 24
  have hne := isA_tok hIX R2 (fun z e => by cases e)
  have hwb : w.heap.size ≠ w4.heap.size := by have := (R1.below b4 R1.lt).lt; omega
  clear b4 hIA hkd hsf hty
  have r0 := R2.cell 0
  have r1 := R2.cell 1
  have r2 := R2.cell 2
  have r3 := R2.cell 3
  have r4 := R2.cell 4
  have f0 := R2.free 0
  have f1 := R2.free 1
  have f2 := R2.free 2
  have f3 := R2.free 3
  have f4 := R2.free 4
  have x0 := XB.cell 0
  have x1 := XB.cell 1
  have x2 := XB.cell 2
  have x3 := XB.cell 3
  have x4 := XB.cell 4
  have xf0 := XB.free 0
  have xf1 := XB.free 1
  have xf2 := XB.free 2
  have xf3 := XB.free 3
  have xf4 := XB.free 4
  simp only [List.getElem?_toArray, List.getElem?_cons_zero, List.getElem?_cons_succ] at r0 r1 r2 r3 r4 x0 x1 x2 x3 x4
  obtain ⟨W7, hW7, z0, z1, z2, z3, z4, hb7, hk7⟩ := tok_store R2 L3 (Nat.le_refl _) (.int .u8 kd) (.string NM) (.slice a kk c) (.bool sf) (.string (bs []))
  have hIY := hid (isA_stay hIX hne hk7)
  have hTY := hid (typ_stay hTX R2 hk7)
  have HK := hid (show kk ≤ s.size by omega)
  clear hIX hTX hne XB R2 hk hsz
  have HW7 := hid hW7
  have HB7 := hid hb7
  have ZZ := hid (And.intro z0 (And.intro z1 (And.intro z2 (And.intro z3 z4))))
  clear hW7 hb7 hk7 z0 z1 z2 z3 z4
  go_wp2
  rw [HW7.out]
  obtain ⟨z0, z1, z2, z3, z4⟩ := ZZ.out
  refine bodyPost_ret (v := .tuple #[.agg #[.int .u8 kd, .string NM, .slice a kk c, .bool sf, .string (bs [])], .int .i64 (n)]) (by simp [results, Tryz.results14, go_sem, z0, z1, z2, z3, z4]) rfl ?_
  exact ⟨⟨a, kk, c, by rw [← HNM.out, ← HKD.out, ← HSF.out]; rfl, hIY.out, HK.out, hTY.out⟩, HB7.out⟩
set_option maxHeartbeats 8000000 in
theorem lpc_note (s : ByteArray) (j : Nat) (cd : Bool) (w : World) (hW : LexW w) (hs : s.size ≤ 300000) (hj : j < s.size) (K n : Nat) (tx : List UInt8) (ha : Tag.begB s.data.toList j = false) (hb : Note.begB (s.data.toList.drop j) = true) (hf : Note.first (s.data.toList.drop j) cd = (K, tx, n)) :
    Calls Tryz.prog 14 #[.string s, .int .i64 j, .bool cd] w fun e w' => LexE (Lex.ofText K tx, j + n) s.size e w' ∧ Below w.heap.size w w' := by
  have HSL := hid (size_list s)
  have HW := hid hW
  have HB := fun W => cbegins_any s j W (by omega) (by omega)
  rw [begI_nat, ha] at HB
  have HB := hid HB
  have HC := fun W => nbegins_any s j W (by omega) (by omega)
  rw [begNI_nat, hb] at HC
  have HC := hid HC
  have HRd := fun W hW => nread_any s j cd W hW (by omega) (by omega)
  have hbI : begNI s.data.toList (j : Int) = true := by rw [begNI_nat]; exact hb
  rw [noteV_yes hbI hf] at HRd
  obtain ⟨en, hen⟩ : ∃ en, j + n = en := ⟨_, rfl⟩
  rw [show ((j : Int) + (n : Int)) = (en : Int) by omega] at HRd
  rw [hen]
  obtain ⟨Z, hZ⟩ : ∃ Z, bs tx = Z := ⟨_, rfl⟩
  rw [hZ] at HRd
  have HRd := hid HRd
  have HZ := hid hZ
  clear ha hb hf hZ hen hbI
  have R1 := BlkW.new w #[.int .u8 0, .string ⟨#[]⟩, .slice none 0 0, .bool false, .string ⟨#[]⟩] 24
  have L1 := (Below.refl w.heap.size w).alloc (Nat.le_refl _) (.cells #[.int .u8 0, .string ⟨#[]⟩, .slice none 0 0, .bool false, .string ⟨#[]⟩] 24)
  clear hW HSL
  go_enter Tryz.func14, Tryz.ntmps14
  go_wp2_with fail
  obtain ⟨W1, hW1⟩ : ∃ W1, w.alloc (.cells #[.int .u8 0, .string ⟨#[]⟩, .slice none 0 0, .bool false, .string ⟨#[]⟩] 24) = W1 := ⟨_, rfl⟩
  rw [hW1] at R1 L1 ⊢
  clear hW1
  refine (HB.out _).mono ?_
  rintro e w2 ⟨rfl, rfl⟩
  go_wp2_with fail
  refine (HC.out _).mono ?_
  rintro e w3 ⟨rfl, rfl⟩
  go_wp2_with fail
  refine (HRd.out _ (lex_below HW.out L1).2).mono ?_
  rintro e w5 ⟨rfl, b5⟩
  have R2 := R1.below b5 R1.lt
  have L2 := (L1.trans (b5.mono L1.size))
  clear b5
  have r0 := R2.cell 0
  have r1 := R2.cell 1
  have r2 := R2.cell 2
  have r3 := R2.cell 3
  have r4 := R2.cell 4
  have f0 := R2.free 0
  have f1 := R2.free 1
  have f2 := R2.free 2
  have f3 := R2.free 3
  have f4 := R2.free 4
  simp only [List.getElem?_toArray, List.getElem?_cons_zero, List.getElem?_cons_succ] at r0 r1 r2 r3 r4
  obtain ⟨W7, hW7, z0, z1, z2, z3, z4, hb7, hk7⟩ := tok_store R2 L2 (Nat.le_refl _) (.int .u8 K) (.string ⟨#[]⟩) (.slice none 0 0) (.bool false) (.string Z)
  have HW7 := hid hW7
  have HB7 := hid hb7
  have ZZ := hid (And.intro z0 (And.intro z1 (And.intro z2 (And.intro z3 z4))))
  clear hW7 hb7 hk7 z0 z1 z2 z3 z4
  go_wp2
  rw [HW7.out]
  obtain ⟨z0, z1, z2, z3, z4⟩ := ZZ.out
  refine bodyPost_ret (v := .tuple #[.agg #[.int .u8 K, .string ⟨#[]⟩, .slice none 0 0, .bool false, .string Z], .int .i64 (en)]) (by simp [results, Tryz.results14, go_sem, z0, z1, z2, z3, z4]) rfl ?_
  exact ⟨lexE_plain (by rw [HZ.out]), HB7.out⟩
set_option maxHeartbeats 8000000 in
theorem lpc_text (s : ByteArray) (j : Nat) (cd : Bool) (w : World) (hW : LexW w) (hs : s.size ≤ 300000) (hj : j < s.size) (ha : Tag.begB s.data.toList j = false) (hb : Note.begB (s.data.toList.drop j) = false) :
    Calls Tryz.prog 14 #[.string s, .int .i64 j, .bool cd] w fun e w' => LexE (Lex.ofText 1 (Ent.decode false ((s.data.toList.drop j).take (Lex.upM s.data.toList j - j))), Lex.upM s.data.toList j) s.size e w' ∧ Below w.heap.size w w' := by
  have HSL := hid (size_list s)
  have HW := hid hW
  have HB := fun W => cbegins_any s j W (by omega) (by omega)
  rw [begI_nat, ha] at HB
  have HB := hid HB
  have HC := fun W => nbegins_any s j W (by omega) (by omega)
  rw [begNI_nat, hb] at HC
  have HC := hid HC
  have hsz := size_list s
  have hEb := Lex.upM_ge s.data.toList j (by omega)
  have HU := hid fun W => lup_any s j W hs (by omega)
  obtain ⟨E, hE⟩ : ∃ E, Lex.upM s.data.toList j = E := ⟨_, rfl⟩
  rw [hE] at hEb HU ⊢
  have hpl : (s.extract j E).data.toList = (s.data.toList.drop j).take (E - j) := by rw [extract_data]
  have HDc := fun W hW => decode_any (s.extract j E) false W (by rw [← size_list, hpl, List.length_take, List.length_drop]; omega) hW
  rw [hpl] at HDc
  obtain ⟨Z, hZ⟩ : ∃ Z : ByteArray, (⟨(Ent.decode false ((s.data.toList.drop j).take (E - j))).toArray⟩ : ByteArray) = Z := ⟨_, rfl⟩
  rw [hZ] at HDc
  have HDc := hid HDc
  have HZ := hid hZ
  have HT := hid (ltok_any Z)
  have f1 : ((j : Int)).toNat = j := by omega
  have f2 : (0 : Int) ≤ (j : Int) := by omega
  have f3 : (j : Int) ≤ (E : Int) := by omega
  have f4 : (E : Int) ≤ (s.size : Int) := by omega
  have f5 : ((E : Int)).toNat = E := by omega
  have f6 : (0 : Int) ≤ (E : Int) := by omega
  have f7 : j ≤ E := by omega
  have hEs : E ≤ s.size := by omega
  clear ha hb hZ hpl hE hEb hsz
  have R1 := BlkW.new w #[.int .u8 0, .string ⟨#[]⟩, .slice none 0 0, .bool false, .string ⟨#[]⟩] 24
  have L1 := (Below.refl w.heap.size w).alloc (Nat.le_refl _) (.cells #[.int .u8 0, .string ⟨#[]⟩, .slice none 0 0, .bool false, .string ⟨#[]⟩] 24)
  clear hW HSL
  go_enter Tryz.func14, Tryz.ntmps14
  go_wp2_with fail
  obtain ⟨W1, hW1⟩ : ∃ W1, w.alloc (.cells #[.int .u8 0, .string ⟨#[]⟩, .slice none 0 0, .bool false, .string ⟨#[]⟩] 24) = W1 := ⟨_, rfl⟩
  rw [hW1] at R1 L1 ⊢
  clear hW1
  refine (HB.out _).mono ?_
  rintro e w2 ⟨rfl, rfl⟩
  go_wp2_with fail
  refine (HC.out _).mono ?_
  rintro e w3 ⟨rfl, rfl⟩
  go_wp2_with fail
  refine (HU.out _).mono ?_
  rintro e w4 ⟨rfl, rfl⟩
  go_wp2_with fail
  refine (HDc.out _ (lex_below HW.out L1).1).mono ?_
  rintro e w6 ⟨rfl, b6⟩
  have R2 := R1.below b6 R1.lt
  have L2 := (L1.trans (b6.mono L1.size))
  clear b6
  go_wp2_with fail
  refine (HT.out _).mono ?_
  rintro e w7 ⟨rfl, b7⟩
  have R3 := R2.below b7 R2.lt
  have L3 := (L2.trans (b7.mono L2.size))
  clear b7 R2
  have r0 := R3.cell 0
  have r1 := R3.cell 1
  have r2 := R3.cell 2
  have r3 := R3.cell 3
  have r4 := R3.cell 4
  have f0 := R3.free 0
  have f1 := R3.free 1
  have f2 := R3.free 2
  have f3 := R3.free 3
  have f4 := R3.free 4
  simp only [List.getElem?_toArray, List.getElem?_cons_zero, List.getElem?_cons_succ] at r0 r1 r2 r3 r4
  obtain ⟨W7, hW7, z0, z1, z2, z3, z4, hb7, hk7⟩ := tok_store R3 L3 (Nat.le_refl _) (.int .u8 1) (.string ⟨#[]⟩) (.slice none 0 0) (.bool false) (.string Z)
  have HW7 := hid hW7
  have HB7 := hid hb7
  have ZZ := hid (And.intro z0 (And.intro z1 (And.intro z2 (And.intro z3 z4))))
  clear hW7 hb7 hk7 z0 z1 z2 z3 z4
  go_wp2
  rw [HW7.out]
  obtain ⟨z0, z1, z2, z3, z4⟩ := ZZ.out
  refine bodyPost_ret (v := .tuple #[.agg #[.int .u8 1, .string ⟨#[]⟩, .slice none 0 0, .bool false, .string Z], .int .i64 (E)]) (by simp [results, Tryz.results14, go_sem, z0, z1, z2, z3, z4]) rfl ?_
  exact ⟨lexE_plain (by rw [← HZ.out]; rfl), HB7.out⟩
/-- What stands at a place, and where it ends. -/
theorem lpiece_any (s : ByteArray) (j : Nat) (cd : Bool) (w : World) (hW : LexW w) (hs : s.size ≤ 300000) (hj : j < s.size) :
    Calls Tryz.prog 14 #[.string s, .int .i64 j, .bool cd] w fun e w' => LexE ((Lex.mark s.data.toList cd j).1, (Lex.mark s.data.toList cd j).2.1) s.size e w' ∧ Below w.heap.size w w' := by
  have hsl := size_list s
  cases ha : Tag.begB s.data.toList j with
  | true =>
    cases hr : Tag.readP s.data.toList j with
    | none =>
      rw [Lex.mark_none ha hr]
      have h := lpc_none s j cd w hW hs hj ha hr
      rwa [← hsl] at h
    | some x =>
      obtain ⟨t, n⟩ := x
      rw [Lex.mark_tag ha hr]
      exact lpc_tag s j cd w hW hs hj t n ha hr
  | false =>
    cases hb : Note.begB (s.data.toList.drop j) with
    | true =>
      obtain ⟨⟨K, tx, n⟩, hf⟩ : ∃ F, Note.first (s.data.toList.drop j) cd = F := ⟨_, rfl⟩
      rw [Lex.mark_note ha hb hf]
      exact lpc_note s j cd w hW hs hj K n tx ha hb hf
    | false =>
      have hu : Lex.upM s.data.toList j = Lex.upM s.data.toList (j + 1) := Lex.upM_no (by unfold Lex.markB; rw [ha, hb]; rfl) (by omega)
      rw [Lex.mark_text ha hb hu.symm]
      exact lpc_text s j cd w hW hs hj ha hb
end Go.Proofs.YtgldgdopabmefaaGreatDoor
