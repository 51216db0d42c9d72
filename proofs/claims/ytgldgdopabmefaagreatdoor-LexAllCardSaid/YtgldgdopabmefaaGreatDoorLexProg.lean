/- Walks: package lex: Next, a loop over raw's Text and over what stands at a place. Written by tools/gen_lexnext.py. Walks: package lex: Next, and All over it. Written by tools/gen_lexnext.py. -/
import Derived.Test.YtgldgdopabmefaaGreatDoorLexPc
import Derived.Test.YtgldgdopabmefaaGreatDoorLexAllS
namespace Go.Proofs.YtgldgdopabmefaaGreatDoor
open Go.RowKit Go.Lib
set_option maxRecDepth 100000
set_option linter.unusedVariables false

/-- What raw's Text tells at a place: a text, which is the token; or nothing, at the place itself. -/
theorem rawV_cases (s : ByteArray) (sm : List UInt8) (m : Nat) (cd : Bool) (k : Nat) (hk : k < s.size) :
    (∃ X : ByteArray, X.toList.isEmpty = true ∧ rawV s.data.toList (k : Int) sm m = .tuple #[.string X, .int .i64 k] ∧ Lex.Here s.data.toList sm m k k) ∨
    (∃ (X : ByteArray) (j : Nat) (t : List UInt8), X.toList.isEmpty = false ∧ rawV s.data.toList (k : Int) sm m = .tuple #[.string X, .int .i64 j] ∧ Lex.next s.data.toList sm m cd k = (Lex.ofText 1 t, j) ∧ bs t = X) := by
  have hsl := size_list s
  have hkl : ¬ s.data.toList.length ≤ k := by omega
  by_cases hm : 1 ≤ m ∧ m ≤ 4
  · obtain ⟨h1, h4⟩ := hm
    have hm1 : Lex.rawM m = true := by unfold Lex.rawM; rw [decide_eq_true h1, decide_eq_true h4]; rfl
    have hV := rawV_yes (l := s.data.toList) (small := sm) (n := k) (mode := m) (by omega) h1 h4 rfl
    rw [show ((k : Int) + ((Raw.far sm m (s.data.toList.drop k) : Nat) : Int)) = ((Lex.rawE s.data.toList sm m k : Nat) : Int) by unfold Lex.rawE; omega] at hV
    by_cases ht : Lex.rawT s.data.toList sm m k = []
    · have hj := Lex.rawT_nil ht
      rw [hj] at hV
      refine .inl ⟨_, ?_, hV, Lex.here_raw (by omega) (fun _ => ht)⟩
      rw [ByteArray.toList_eq]
      show (Lex.rawT s.data.toList sm m k).isEmpty = true
      rw [ht]
      rfl
    · refine .inr ⟨_, _, _, ?_, hV, Lex.next_raw hkl hm1 ht, rfl⟩
      rw [ByteArray.toList_eq]
      show (Lex.rawT s.data.toList sm m k).isEmpty = false
      cases hc : Lex.rawT s.data.toList sm m k with
      | nil => exact absurd hc ht
      | cons a r => rfl
  · refine .inl ⟨⟨#[]⟩, by decide +kernel, rawV_no (by omega), Lex.here_raw (by omega) (fun e => ?_)⟩
    unfold Lex.rawM at e
    simp only [Bool.and_eq_true, decide_eq_true_eq] at e
    exact absurd e hm
set_option maxHeartbeats 4000000 in
theorem lnx_neg (s name : ByteArray) (i : Int) (m : Nat) (cd : Bool) (w : World) (hi : i < 0) :
    Calls Tryz.prog 5 #[.string s, .int .i64 i, .int .u8 m, .string name, .bool cd] w fun e w' => LexE (Lex.last, s.size) s.size e w' ∧ Below w.heap.size w w' := by
  have d0 : decide (0 ≤ i) = false := decide_eq_false (by omega)
  go_enter Tryz.func5, Tryz.ntmps5
  go_wp2
  go_loopg [1] (0 : Nat) (fun g iv wr => iv = .int .i64 i ∧ wr = w.alloc (.cells #[.int .u8 0, .string ⟨#[]⟩, .slice none 0 0, .bool false, .string ⟨#[]⟩] 24))
  case atStart => exact ⟨rfl, rfl⟩
  case round =>
    obtain ⟨rfl, rfl⟩ := hrel
    go_wp2
    go_returns
    exact ⟨lexE_last rfl, ((Below.refl w.heap.size w).alloc (Nat.le_refl _) _)⟩
set_option maxHeartbeats 16000000 in
theorem lnx_any (s name : ByteArray) (i : Nat) (m : Nat) (hm : m < 256) (cd : Bool) (w : World) (hW : LexW w) (hs : s.size ≤ 300000) (hps : name.size ≤ 300000) :
    Calls Tryz.prog 5 #[.string s, .int .i64 i, .int .u8 m, .string name, .bool cd] w fun e w' => LexE (Lex.next s.data.toList (Raw.smallN name.data.toList) m cd i) s.size e w' ∧ Below w.heap.size w w' := by
  have HSL := hid (size_list s)
  have HW := hid hW
  obtain ⟨sm, hsm⟩ : ∃ sm, Raw.smallN name.data.toList = sm := ⟨_, rfl⟩
  have HSM := hid hsm
  rw [hsm]
  obtain ⟨R, hR⟩ : ∃ R, Lex.next s.data.toList sm m cd i = R := ⟨_, rfl⟩
  rw [hR]
  have H0 := hid hR
  have R1 := hid (BlkW.new w #[.int .u8 0, .string ⟨#[]⟩, .slice none 0 0, .bool false, .string ⟨#[]⟩] 24)
  have L1 := hid ((Below.refl w.heap.size w).alloc (Nat.le_refl _) (.cells #[.int .u8 0, .string ⟨#[]⟩, .slice none 0 0, .bool false, .string ⟨#[]⟩] 24))
  have HP := hid fun (k : Nat) (hk : k < s.size) W hW => lpiece_any s k cd W hW hs hk
  clear hW hsm hR
  go_enter Tryz.func5, Tryz.ntmps5
  go_wp2
  generalize hWW : (w.alloc (.cells #[.int .u8 0, .string ⟨#[]⟩, .slice none 0 0, .bool false, .string ⟨#[]⟩] 24)) = W1 at R1 L1 ⊢
  clear hWW
  go_loopg [1] (s.size - i) (fun g iv wr => ∃ k : Nat, s.size - k ≤ g ∧ iv = .int .i64 k ∧ Hid (Lex.next s.data.toList sm m cd k = R) ∧ Hid (BlkW wr w.heap.size #[.int .u8 0, .string ⟨#[]⟩, .slice none 0 0, .bool false, .string ⟨#[]⟩] 24) ∧ Hid (Below w.heap.size w wr))
  case atStart => exact ⟨i, Nat.le_refl _, rfl, H0, R1, L1⟩
  case round =>
    obtain ⟨k, hg, rfl, hI, R1, L1⟩ := hrel
    have d0 : decide ((0 : Int) ≤ (k : Int)) = true := decide_eq_true (by omega)
    by_cases hlt : k < s.size
    · have e1 : decide (k < s.size) = true := decide_eq_true hlt
      have hltI : (k : Int) < (s.size : Int) := by omega
      have RT := fun W hW => rawC s name k m W hW (by omega) (by omega) hm (by omega)
      rcases rawV_cases s sm m cd k hlt with ⟨X, hX, hV, hH⟩ | ⟨X, j, t, hX, hV, hn, ht⟩
      · rw [HSM.out, hV] at RT
        have RT := hid RT
        obtain ⟨MK, hMK⟩ : ∃ MK, Lex.mark s.data.toList cd k = MK := ⟨_, rfl⟩
        have hmk := Lex.mark_zero s.data.toList cd k
        have P1 := fun W hW => HP.out k hlt W hW
        rw [hMK] at hmk P1
        obtain ⟨⟨kd, nm, ats, cl, tx⟩, to, more⟩ := MK
        simp only at hmk
        have HMO := hid hmk
        clear hmk
        have P1 := hid P1
        have HH := hid hH
        have HMK := hid hMK
        clear hH hMK hV
        go_wp2_with fail
        refine (RT.out _ (lex_below HW.out L1.out).1).mono ?_
        rintro e w2 ⟨rfl, b2⟩
        have R2 := hid (R1.out.below b2 R1.out.lt)
        have L2 := hid (L1.out.trans (b2.mono L1.out.size))
        clear b2
        go_wp2_with fail
        refine (P1.out _ (lex_below HW.out L2.out)).mono ?_
        rintro e w3 ⟨hE, b3⟩
        obtain ⟨a, kk, c, he, hIA, hk, hty⟩ := hE
        unfold tokV at he
        simp only at he hIA
        subst he
        obtain ⟨NM, hNM⟩ : ∃ NM, bs nm = NM := ⟨_, rfl⟩
        obtain ⟨TX, hTX⟩ : ∃ TX, bs tx = TX := ⟨_, rfl⟩
        rw [hNM, hTX]
        have HNM := hid hNM
        have HTX := hid hTX
        clear hNM hTX
        have R3 := (R2.out.below b3 R2.out.lt).alloc (.cells #[.int .u8 kd, .string NM, .slice a kk c, .bool cl, .string TX] 24)
        have l3 := (L2.out.trans (b3.mono L2.out.size))
        have L3 := l3.alloc l3.size (.cells #[.int .u8 kd, .string NM, .slice a kk c, .bool cl, .string TX] 24)
        have XB := BlkW.new w3 #[.int .u8 kd, .string NM, .slice a kk c, .bool cl, .string TX] 24
        have hTX := hty.below ((Below.refl w3.heap.size w3).alloc (Nat.le_refl _) (.cells #[.int .u8 kd, .string NM, .slice a kk c, .bool cl, .string TX] 24))
        have hIX := hIA.below ((Below.refl w3.heap.size w3).alloc (Nat.le_refl _) (.cells #[.int .u8 kd, .string NM, .slice a kk c, .bool cl, .string TX] 24))
        have hne := isA_tok hIX R3 (fun z e => by cases e)
        have hwb : w.heap.size ≠ w3.heap.size := by have := (R2.out.below b3 R2.out.lt).lt; omega
        clear b3 hIA hty
        by_cases hK : kd = 0
        · subst hK
          have hgo := Lex.next_go (cd := cd) HH.out (by rw [HMK.out]; exact HMO.out.trans (decide_eq_true rfl))
          rw [HMK.out, hI.out] at hgo
          simp only at hgo
          have hmo := (Lex.mark_more (l := s.data.toList) (cd := cd) (j := k) (by rw [HMK.out]; exact HMO.out.trans (decide_eq_true rfl))).1
          rw [HMK.out] at hmo
          simp only at hmo
          have HN : Hid (Lex.next s.data.toList sm m cd to = R) := hid hgo.symm
          have R4 := hid R3
          have L4 := hid L3
          have x0 := XB.cell 0
          simp only [List.getElem?_toArray, List.getElem?_cons_zero] at x0
          clear hgo R3 L3 l3 hTX hIX hne XB
          go_wp2
          go_roundg (s.size - to)
          case measure => omega
          case rel => exact ⟨to, Nat.le_refl _, rfl, HN, R4, L4⟩
        · have hKb : (((kd : Nat) : Int) != 0) = true := by simp; omega
          have hst := Lex.next_stay (cd := cd) HH.out (by rw [HMK.out]; exact HMO.out.trans (decide_eq_false hK))
          rw [HMK.out, hI.out] at hst
          simp only at hst
          have HN := hid hst.symm
          clear hst
          have r0 := R3.cell 0
          have r1 := R3.cell 1
          have r2 := R3.cell 2
          have r3 := R3.cell 3
          have r4 := R3.cell 4
          have f0 := R3.free 0
          have f1 := R3.free 1
          have f2 := R3.free 2
          have f3 := R3.free 3
          have f4 := R3.free 4
          have x0 := XB.cell 0
          have x1 := XB.cell 1
          have x2 := XB.cell 2
          have x3 := XB.cell 3
          have x4 := XB.cell 4
          have xf0 := XB.free 0
          have xf1 := XB.free 1
          have xf2 := XB.free 2
          have xf3 := XB.free 3
          have xf4 := XB.free 4
          simp only [List.getElem?_toArray, List.getElem?_cons_zero, List.getElem?_cons_succ] at r0 r1 r2 r3 r4 x0 x1 x2 x3 x4
          obtain ⟨W7, hW7, z0, z1, z2, z3, z4, hb7, hk7⟩ := tok_store R3 L3 (Nat.le_refl _) (.int .u8 kd) (.string NM) (.slice a kk c) (.bool cl) (.string TX)
          have hIY := hid (isA_stay hIX hne hk7)
          have hTY := hid (typ_stay hTX R3 hk7)
          have HK := hid hk
          clear hIX hTX hne XB R3 hk
          have HW7 := hid hW7
          have HB7 := hid hb7
          have ZZ := hid (And.intro z0 (And.intro z1 (And.intro z2 (And.intro z3 z4))))
          clear hW7 hb7 hk7 z0 z1 z2 z3 z4
          go_wp2
          rw [HW7.out]
          obtain ⟨z0, z1, z2, z3, z4⟩ := ZZ.out
          refine bodyPost_ret (v := .tuple #[.agg #[.int .u8 kd, .string NM, .slice a kk c, .bool cl, .string TX], .int .i64 (to)]) (by simp [results, Tryz.results5, go_sem, z0, z1, z2, z3, z4]) rfl ?_
          exact ⟨by rw [← HN.out]; exact ⟨a, kk, c, by rw [← HNM.out, ← HTX.out]; rfl, hIY.out, HK.out, hTY.out⟩, HB7.out⟩
      · rw [HSM.out, hV] at RT
        have RT := hid RT
        have HN := hid (hn.symm.trans hI.out)
        have HT := hid ht
        have HK := hid (ltok_any X)
        clear hV hn ht
        go_wp2_with fail
        refine (RT.out _ (lex_below HW.out L1.out).1).mono ?_
        rintro e w2 ⟨rfl, b2⟩
        have R2 := (R1.out.below b2 R1.out.lt)
        have L2 := (L1.out.trans (b2.mono L1.out.size))
        clear b2
        go_wp2_with fail
        refine (HK.out _).mono ?_
        rintro e w3 ⟨rfl, b3⟩
        have R3 := R2.below b3 R2.lt
        have L3 := (L2.trans (b3.mono L2.size))
        clear b3
        have r0 := R3.cell 0
        have r1 := R3.cell 1
        have r2 := R3.cell 2
        have r3 := R3.cell 3
        have r4 := R3.cell 4
        have f0 := R3.free 0
        have f1 := R3.free 1
        have f2 := R3.free 2
        have f3 := R3.free 3
        have f4 := R3.free 4
        simp only [List.getElem?_toArray, List.getElem?_cons_zero, List.getElem?_cons_succ] at r0 r1 r2 r3 r4
        obtain ⟨W7, hW7, z0, z1, z2, z3, z4, hb7, hk7⟩ := tok_store R3 L3 (Nat.le_refl _) (.int .u8 1) (.string ⟨#[]⟩) (.slice none 0 0) (.bool false) (.string X)
        have HW7 := hid hW7
        have HB7 := hid hb7
        have ZZ := hid (And.intro z0 (And.intro z1 (And.intro z2 (And.intro z3 z4))))
        clear hW7 hb7 hk7 z0 z1 z2 z3 z4
        go_wp2
        rw [HW7.out]
        obtain ⟨z0, z1, z2, z3, z4⟩ := ZZ.out
        refine bodyPost_ret (v := .tuple #[.agg #[.int .u8 1, .string ⟨#[]⟩, .slice none 0 0, .bool false, .string X], .int .i64 (j)]) (by simp [results, Tryz.results5, go_sem, z0, z1, z2, z3, z4]) rfl ?_
        exact ⟨by rw [← HN.out]; exact lexE_plain (by rw [← HT.out]; rfl), HB7.out⟩
    · have e1 : decide (k < s.size) = false := decide_eq_false hlt
      have hltI : ¬ (k : Int) < (s.size : Int) := by omega
      have hn := Lex.next_end (l := s.data.toList) (small := sm) (mode := m) (cd := cd) (i := k) (by rw [HSL.out]; omega)
      rw [hn, HSL.out] at hI
      have HN := hid hI.out.symm
      clear hn hI
      have R2 := R1.out
      have L2 := L1.out
      have r0 := R2.cell 0
      have r1 := R2.cell 1
      have r2 := R2.cell 2
      have r3 := R2.cell 3
      have r4 := R2.cell 4
      have f0 := R2.free 0
      have f1 := R2.free 1
      have f2 := R2.free 2
      have f3 := R2.free 3
      have f4 := R2.free 4
      simp only [List.getElem?_toArray, List.getElem?_cons_zero, List.getElem?_cons_succ] at r0 r1 r2 r3 r4
      obtain ⟨W7, hW7, z0, z1, z2, z3, z4, hb7, hk7⟩ := tok_store R2 L2 (Nat.le_refl _) (.int .u8 6) (.string ⟨#[]⟩) (.slice none 0 0) (.bool false) (.string ⟨#[]⟩)
      have HW7 := hid hW7
      have HB7 := hid hb7
      have ZZ := hid (And.intro z0 (And.intro z1 (And.intro z2 (And.intro z3 z4))))
      clear hW7 hb7 hk7 z0 z1 z2 z3 z4
      go_wp2
      rw [HW7.out]
      obtain ⟨z0, z1, z2, z3, z4⟩ := ZZ.out
      refine bodyPost_ret (v := .tuple #[.agg #[.int .u8 6, .string ⟨#[]⟩, .slice none 0 0, .bool false, .string ⟨#[]⟩], .int .i64 (s.size)]) (by simp [results, Tryz.results5, go_sem, z0, z1, z2, z3, z4]) rfl ?_
      exact ⟨by rw [HN.out]; exact lexE_last rfl, HB7.out⟩
theorem lexNC : LexNC LexW := by
  intro s name i m cd w hW hs hps hm hi
  unfold nextI
  by_cases h : i < 0
  · rw [if_pos h, size_list]
    exact lnx_neg s name i m cd w h
  · rw [if_neg h]
    obtain ⟨n, rfl⟩ : ∃ n : Nat, i = n := ⟨i.toNat, by omega⟩
    rw [show ((n : Int)).toNat = n by omega]
    exact lnx_any s name n m hm cd w hW hs hps
end Go.Proofs.YtgldgdopabmefaaGreatDoor
namespace Go.Proofs.YtgldgdopabmefaaGreatDoor
open Go.RowKit Go.Lib

theorem lexAC : LexAC LexW := fun s w hT ws => lexall_any lexNC (fun _ _ h b => lex_below h b) s w hT ws
end Go.Proofs.YtgldgdopabmefaaGreatDoor
