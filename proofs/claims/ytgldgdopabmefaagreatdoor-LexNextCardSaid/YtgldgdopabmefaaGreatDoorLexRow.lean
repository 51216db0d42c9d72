/- Walks over the reference of layer 9: Next, all ways. Walks over the reference of layer 9: all tokens. Walks: the statements LexNext and LexAll over what the program's Next and All are known to tell (LexNC, LexAC). EW: what the program's variables hold. -/
import Derived.Test.YtgldgdopabmefaaGreatDoorRefLexO
import Derived.Test.YtgldgdopabmefaaGreatDoorRefLexP
import Derived.Test.YtgldgdopabmefaaGreatDoorLoopJ
import Derived.Test.YtgldgdopabmefaaGreatDoorRawTag
import Derived.Test.YtgldgdopabmefaaGreatDoorLoopK
namespace Go.Proofs.YtgldgdopabmefaaGreatDoor
open Go.RowKit Go.Lib
set_option maxRecDepth 100000
set_option linter.unusedVariables false

theorem rnext_nat (s name : ByteArray) (m : Nat) (cd : Bool) (hs : s.size ≤ 300000) (hps : name.size ≤ 300000) (hm : m < 256) : ∀ (f i : Nat), s.size < f + i → RNextC s name m cd i := by
  intro f
  induction f with
  | zero =>
    intro i h w
    rw [Lex.next_end (by rw [size_list]; omega), size_list]
    exact rl_far s name i m cd w (by omega)
  | succ f ih =>
    intro i h w
    by_cases hi : s.size ≤ i
    · rw [Lex.next_end (by rw [size_list]; omega), size_list]
      exact rl_far s name i m cd w hi
    have hil : ¬ s.data.toList.length ≤ i := by rw [size_list]; exact hi
    by_cases h1 : 1 ≤ m
    · by_cases h4 : m ≤ 4
      · have hm1 : Lex.rawM m = true := by unfold Lex.rawM; rw [decide_eq_true h1, decide_eq_true h4]; rfl
        by_cases ht : Lex.rawT s.data.toList (Raw.smallN name.data.toList) m i = []
        · by_cases he : s.size ≤ Lex.rawE s.data.toList (Raw.smallN name.data.toList) m i
          · exact rl_over s name i m cd w hs hps hm (by omega) h1 h4 ht he
          · have hle := Lex.rawE_le (small := Raw.smallN name.data.toList) (mode := m) (show i ≤ s.data.toList.length by omega)
            obtain ⟨j, hj⟩ : ∃ j, Lex.rawE s.data.toList (Raw.smallN name.data.toList) m i = j := ⟨_, rfl⟩
            rw [hj] at he hle
            have hH : Lex.Here s.data.toList (Raw.smallN name.data.toList) m i j := ⟨hil, fun _ => ht, by unfold Lex.from_; rw [if_pos hm1]; exact hj, by rw [size_list]; omega⟩
            cases ha : Tag.begB s.data.toList j with
            | true =>
              cases hr : Tag.readP s.data.toList j with
              | none => exact rl_R_none s name i m cd w hs hps hm h1 h4 j hH ha hr
              | some x =>
                obtain ⟨t, n⟩ := x
                exact rl_R_tag s name i m cd w hs hps hm h1 h4 j hH t n ha hr
            | false =>
              cases hb : Note.begB (s.data.toList.drop j) with
              | true =>
                obtain ⟨⟨K, tx, n⟩, hf⟩ : ∃ F, Note.first (s.data.toList.drop j) cd = F := ⟨_, rfl⟩
                by_cases hK : K = 0
                · subst hK
                  have h2 := (Note.first_form cd hb).2.1
                  rw [hf] at h2
                  exact rl_R_go s name i m cd w hs hps hm h1 h4 j hH tx n ha hb hf (ih (j + n) (by have h3 : 2 ≤ n := h2; have := hle.1; omega))
                · exact rl_R_stay s name i m cd w hs hps hm h1 h4 j hH K tx n ha hb hf hK
              | false => exact rl_R_text s name i m cd w hs hps hm h1 h4 j hH ha hb
        · exact rl_raw s name i m cd w hs hps hm (by omega) h1 h4 ht
      · have hm1 : Lex.rawM m = false := by unfold Lex.rawM; rw [decide_eq_false h4, Bool.and_false]
        have h5 : 4 < m := by omega
        have hH : Lex.Here s.data.toList (Raw.smallN name.data.toList) m i i := ⟨hil, fun x => (by rw [hm1] at x; cases x), by unfold Lex.from_; rw [if_neg (by rw [hm1]; decide)], by omega⟩
        cases ha : Tag.begB s.data.toList i with
        | true =>
          cases hr : Tag.readP s.data.toList i with
          | none => exact rl_H_none s name i m cd w hs hps hm h5 hH ha hr
          | some x =>
            obtain ⟨t, n⟩ := x
            exact rl_H_tag s name i m cd w hs hps hm h5 hH t n ha hr
        | false =>
          cases hb : Note.begB (s.data.toList.drop i) with
          | true =>
            obtain ⟨⟨K, tx, n⟩, hf⟩ : ∃ F, Note.first (s.data.toList.drop i) cd = F := ⟨_, rfl⟩
            by_cases hK : K = 0
            · subst hK
              have h2 := (Note.first_form cd hb).2.1
              rw [hf] at h2
              exact rl_H_go s name i m cd w hs hps hm h5 hH tx n ha hb hf (ih (i + n) (by have h3 : 2 ≤ n := h2; have := hi; omega))
            · exact rl_H_stay s name i m cd w hs hps hm h5 hH K tx n ha hb hf hK
          | false => exact rl_H_text s name i m cd w hs hps hm h5 hH ha hb
    · obtain rfl : m = 0 := by omega
      have hm1 : Lex.rawM 0 = false := by decide
      have hH : Lex.Here s.data.toList (Raw.smallN name.data.toList) 0 i i := ⟨hil, fun x => (by rw [hm1] at x; cases x), by unfold Lex.from_; rw [if_neg (by rw [hm1]; decide)], by omega⟩
      cases ha : Tag.begB s.data.toList i with
      | true =>
        cases hr : Tag.readP s.data.toList i with
        | none => exact rl_N_none s name i cd w hs hps hH ha hr
        | some x =>
          obtain ⟨t, n⟩ := x
          exact rl_N_tag s name i cd w hs hps hH t n ha hr
      | false =>
        cases hb : Note.begB (s.data.toList.drop i) with
        | true =>
          obtain ⟨⟨K, tx, n⟩, hf⟩ : ∃ F, Note.first (s.data.toList.drop i) cd = F := ⟨_, rfl⟩
          by_cases hK : K = 0
          · subst hK
            have h2 := (Note.first_form cd hb).2.1
            rw [hf] at h2
            exact rl_N_go s name i cd w hs hps hH tx n ha hb hf (ih (i + n) (by have h3 : 2 ≤ n := h2; have := hi; omega))
          · exact rl_N_stay s name i cd w hs hps hH K tx n ha hb hf hK
        | false => exact rl_N_text s name i cd w hs hps hH ha hb
theorem rnext_any (s name : ByteArray) (i : Int) (m : Nat) (cd : Bool) (w : World) (hs : s.size ≤ 300000) (hps : name.size ≤ 300000) (hm : m < 256) :
    Calls Tryz.prog 6 #[.string s, .int .i64 i, .int .u8 m, .string name, .bool cd] w fun e w' => LexE (nextI s.data.toList (Raw.smallN name.data.toList) m cd i) s.size e w' ∧ Below w.heap.size w w' := by
  unfold nextI
  by_cases h : i < 0
  · rw [if_pos h, size_list]
    exact rl_neg s name i m cd w h
  · rw [if_neg h]
    obtain ⟨n, rfl⟩ : ∃ n : Nat, i = n := ⟨i.toNat, by omega⟩
    exact rnext_nat s name m cd hs hps hm (s.size + 1) n (by omega) w
end Go.Proofs.YtgldgdopabmefaaGreatDoor
namespace Go.Proofs.YtgldgdopabmefaaGreatDoor
open Go.RowKit Go.Lib
set_option maxRecDepth 100000
set_option linter.unusedVariables false

set_option maxHeartbeats 4000000 in
theorem rall_any (s : ByteArray) (w : World) (hs : s.size ≤ 300000) :
    Calls Tryz.prog 11 #[.string s] w fun e w' => AllE s.data.toList s.size e w' ∧ Below w.heap.size w w' := by
  have hsl := size_list s
  have HSL := hid hsl
  have HN := hid fun (i : Nat) W => rnext_nat s ⟨#[]⟩ 0 false hs (by decide) (by decide) (s.size + 1) i (by omega) W
  obtain ⟨L, hL⟩ : ∃ L, Lex.allAt s.data.toList 0 = L := ⟨_, rfl⟩
  have HL := hid hL
  unfold AllE
  rw [hL]
  clear hsl
  go_enter Tryz.func11, Tryz.ntmps11
  go_wp2
  go_loopg [3, 4] (s.size + 1) (fun g ov iv wr => ∃ (i : Nat) (ts : List Lex.T), i ≤ s.size ∧ s.size + 1 - i ≤ g ∧ iv = .int .i64 i ∧ ts.length ≤ i ∧ Hid (OwnT wr w.heap.size s.size ov ts) ∧ Hid (ts ++ Lex.allAt s.data.toList i = L) ∧ Hid (Below w.heap.size w wr))
  case atStart => exact ⟨0, [], by omega, by omega, rfl, by simp, hid (OwnT.nil _ _ _), hid (by rw [List.nil_append]; exact hL), hid (Below.refl _ _)⟩
  case round =>
    obtain ⟨i, ts, hi, hg, rfl, htl, hO, hA, hB⟩ := hrel
    have hgr := Lex.next_grow s.data.toList [60, 47] 0 false s.size i (by have := HSL.out; omega)
    obtain ⟨x, hx⟩ : ∃ x, Lex.next s.data.toList [60, 47] 0 false i = x := ⟨_, rfl⟩
    have hxe : Lex.next s.data.toList (Raw.smallN (⟨#[]⟩ : ByteArray).data.toList) 0 false i = x := hx
    rw [hx] at hgr
    have HX := hid hx
    have HXE := hid hxe
    obtain ⟨kd, hkd⟩ : ∃ kd, x.1.kind = kd := ⟨_, rfl⟩
    obtain ⟨pl, hpl⟩ : ∃ pl, x.2 = pl := ⟨_, rfl⟩
    rw [hkd] at hgr
    by_cases h6 : kd = 6
    · have t6 : (((kd : Nat) : Int) == 6) = true := by rw [h6]; rfl
      have HE := hid (Lex.allAt_end (l := s.data.toList) (i := i) (by rw [hx, hkd, h6]))
      clear hx hxe hgr h6
      go_wp2_with fail
      refine (HN.out i _).mono ?_
      rintro e w1 ⟨⟨a, k, c, rfl, hI, hk, hty⟩, b1⟩
      rw [HXE.out] at hI ⊢
      unfold tokV
      rw [hkd, hpl]
      have y0 := (BlkW.new w1 #[.int .u8 kd, .string (bs x.1.name), .slice a k c, .bool x.1.self, .string (bs x.1.text)] 24).cell 0
      simp only [List.getElem?_toArray, List.getElem?_cons_zero] at y0
      have O1 := hid (own_new (w := w) (hO.out.below b1) (.cells #[.int .u8 kd, .string (bs x.1.name), .slice a k c, .bool x.1.self, .string (bs x.1.text)] 24))
      have B1 := hid ((hB.out.trans (b1.mono hB.out.size)).alloc (hB.out.trans (b1.mono hB.out.size)).size (.cells #[.int .u8 kd, .string (bs x.1.name), .slice a k c, .bool x.1.self, .string (bs x.1.text)] 24))
      clear hI hk hty b1
      obtain ⟨ad, cap, rfl, hT, _⟩ := own_isK O1.out
      have HT := hid hT
      clear hT
      go_wp2
      try rw [Exit.noGoto_ret]
      go_ret
      refine ⟨⟨ad, cap, ?_, ?_, ?_⟩, B1.out⟩
      · rw [← hA.out, HE.out, List.append_nil]; rfl
      · rw [← hA.out, HE.out, List.append_nil]; exact HT.out
      · rw [← hA.out, HE.out, List.append_nil]; omega
    · have t6 : (((kd : Nat) : Int) == 6) = false := beq_eq_false_iff_ne.2 (by omega)
      have HGo := hid (Lex.allAt_go (l := s.data.toList) (i := i) (by rw [hx, hkd]; exact h6))
      obtain ⟨g1, g2, _⟩ : i < x.2 ∧ x.2 ≤ s.data.toList.length ∧ kd ≠ 6 := by
        rcases hgr with e | h
        · rw [e] at hkd
          exact absurd hkd.symm h6
        · exact h
      rw [hpl, HSL.out] at g2
      rw [hpl] at g1
      have HKD := hid hkd
      have HPL := hid hpl
      clear hx hxe hgr h6
      go_wp2_with fail
      refine (HN.out i _).mono ?_
      rintro e w1 ⟨⟨a, k, c, rfl, hI, hk, hty⟩, b1⟩
      rw [HXE.out] at hI ⊢
      obtain ⟨r, hr⟩ : ∃ r : TokR, r = ⟨x.1.kind, x.1.name, a, k, c, x.1.self, x.1.text⟩ := ⟨_, rfl⟩
      have hF : Fits w1 s.size r x.1 := by rw [hr]; exact ⟨rfl, rfl, rfl, rfl, hI, hk, hty⟩
      have e1 : x.1.kind = r.kind := by rw [hr]
      have e2 : x.1.name = r.name := by rw [hr]
      have e3 : x.1.self = r.self := by rw [hr]
      have e4 : x.1.text = r.text := by rw [hr]
      have e5 : a = r.ad := by rw [hr]
      have e6 : k = r.n := by rw [hr]
      have e7 : c = r.c := by rw [hr]
      unfold tokV
      rw [e1, e2, e3, e4, e5, e6, e7, hpl]
      have hkr : kd = r.kind := by rw [← hkd, e1]
      rw [hkr] at t6
      have YB := BlkW.new w1 #[.int .u8 r.kind, .string (bs r.name), .slice r.ad r.n r.c, .bool r.self, .string (bs r.text)] 24
      have y0 := YB.cell 0
      have y1 := YB.cell 1
      have y2 := YB.cell 2
      have y3 := YB.cell 3
      have y4 := YB.cell 4
      simp only [List.getElem?_toArray, List.getElem?_cons_zero, List.getElem?_cons_succ] at y0 y1 y2 y3 y4
      have O1 := own_new (w := w) (hO.out.below b1) (.cells #[.int .u8 r.kind, .string (bs r.name), .slice r.ad r.n r.c, .bool r.self, .string (bs r.text)] 24)
      have F1 := fits_new hF (.cells #[.int .u8 r.kind, .string (bs r.name), .slice r.ad r.n r.c, .bool r.self, .string (bs r.text)] 24)
      have B1 := (hB.out.trans (b1.mono hB.out.size)).alloc (hB.out.trans (b1.mono hB.out.size)).size (.cells #[.int .u8 r.kind, .string (bs r.name), .slice r.ad r.n r.c, .bool r.self, .string (bs r.text)] 24)
      have O3 := hid (own_new (w := w) O1 (.cells #[.int .u8 r.kind, .string (bs r.name), .slice r.ad r.n r.c, .bool r.self, .string (bs r.text)] 24))
      have F3 := hid (fits_new F1 (.cells #[.int .u8 r.kind, .string (bs r.name), .slice r.ad r.n r.c, .bool r.self, .string (bs r.text)] 24))
      have B3 := hid (B1.alloc B1.size (.cells #[.int .u8 r.kind, .string (bs r.name), .slice r.ad r.n r.c, .bool r.self, .string (bs r.text)] 24))
      have N3 := hid (tok_new (w1.alloc (.cells #[.int .u8 r.kind, .string (bs r.name), .slice r.ad r.n r.c, .bool r.self, .string (bs r.text)] 24)) r (w1.heap.size + 1) (by simp))
      have HE1 := hid e1
      clear hI hk hty b1 hF O1 F1 B1 YB hr e1 e2 e3 e4 e5 e6 e7 hkr hkd hpl hO hB
      go_wp2_with (at_builtin; refine append_K rfl _ _ rfl w.heap.size s.size _ ts rfl O3.out ⟨w1.heap.size + 1, 0, none⟩ 1 r x.1 rfl N3.out F3.out (by omega) B3.out.size ?_)
      intro v' w' hown2 hgr2
      have hown3 := hid hown2
      have hB3 := hid (B3.out.grown hgr2 B3.out.size (fun g hg => by
        obtain ⟨rs, h1, _, _⟩ := O3.out
        exact own_ge h1 g hg))
      have HA3 : Hid ((ts ++ [x.1]) ++ Lex.allAt s.data.toList pl = L) := hid (by
        have h1 := hA.out
        rw [HGo.out, HX.out, HPL.out] at h1
        rw [List.append_assoc]
        exact h1)
      clear hown2 hgr2
      go_wp2
      go_roundg (s.size + 1 - pl)
      case measure => omega
      case rel => exact ⟨pl, ts ++ [x.1], g2, by omega, rfl, by rw [List.length_append]; simp; omega, hown3, HA3, hB3⟩
end Go.Proofs.YtgldgdopabmefaaGreatDoor
namespace Go.Proofs.YtgldgdopabmefaaGreatDoor
open Go.RowKit Go.Lib
set_option maxRecDepth 100000
set_option linter.unusedVariables false

set_option maxHeartbeats 4000000 in
theorem lnext_any {EW : World → Prop} (HN : LexNC EW) (HA : LexAC EW) (HB : KeepsW EW) (s name : ByteArray) (i : Int) (m : Nat) (cd : Bool) (w : World) (hT : EW w) (ws : s.size ≤ maxLen) (wn : name.size ≤ maxLen) (hm : m < 256) (hi : -9223372036854775808 ≤ i ∧ i ≤ 9223372036854775807) :
    Calls Tryz.prog 3 #[.string s, .int .i64 i, .int .u8 m, .string name, .bool cd] w fun e w' => e = .returned (.bool true) ∧ Below w.heap.size w w' := by
  unfold maxLen at ws wn
  have HT := hid hT
  by_cases hs : 2000 < s.size
  · have hd : decide ((2000 : Int) < (s.size : Int)) = true := by simp; omega
    clear hT HN HA HB
    go_enter Tryz.func3, Tryz.ntmps3
    go_wp2
    go_ret
    exact ⟨rfl, Below.refl _ _⟩
  have hd : decide ((2000 : Int) < (s.size : Int)) = false := by simp; omega
  by_cases hn : 2000 < name.size
  · have hd2 : decide ((2000 : Int) < (name.size : Int)) = true := by simp; omega
    clear hT HN HA HB
    go_enter Tryz.func3, Tryz.ntmps3
    go_wp2
    go_ret
    exact ⟨rfl, Below.refl _ _⟩
  have hd2 : decide ((2000 : Int) < (name.size : Int)) = false := by simp; omega
  have H1 := hid fun W hW => HN s name i m cd W hW (by omega) (by omega) hm hi
  have H2 := hid fun W => rnext_any s name i m cd W (by omega) (by omega) hm
  have HK := hid (known9_any HN HA HB)
  have HBB := hid HB
  obtain ⟨X, hX⟩ : ∃ X, nextI s.data.toList (Raw.smallN name.data.toList) m cd i = X := ⟨_, rfl⟩
  rw [hX] at H1 H2
  obtain ⟨K, hK⟩ : ∃ K, X.1.kind = K := ⟨_, rfl⟩
  obtain ⟨NM, hNM⟩ : ∃ NM, X.1.name = NM := ⟨_, rfl⟩
  obtain ⟨cl, hcl⟩ : ∃ cl, X.1.self = cl := ⟨_, rfl⟩
  obtain ⟨tx, htx⟩ : ∃ tx, X.1.text = tx := ⟨_, rfl⟩
  obtain ⟨ats, hats⟩ : ∃ ats, X.1.atts = ats := ⟨_, rfl⟩
  obtain ⟨pl, hpl⟩ : ∃ pl, X.2 = pl := ⟨_, rfl⟩
  unfold LexE at H1 H2
  rw [hK, hNM, hcl, htx, hats, hpl] at H1 H2
  clear hT HN HA HB hX hK hNM hcl htx hats hpl
  go_enter Tryz.func3, Tryz.ntmps3
  go_wp2_with fail
  refine (H1.out _ HT.out).mono ?_
  rintro e w1 ⟨⟨a1, k1, c1, rfl, i1, l1, _⟩, b1⟩
  unfold tokV
  have Z1 := hid (BlkW.new w1 #[.int .u8 K, .string (bs NM), .slice a1 k1 c1, .bool cl, .string (bs tx)] 24)
  have B1 := hid (b1.alloc b1.size (.cells #[.int .u8 K, .string (bs NM), .slice a1 k1 c1, .bool cl, .string (bs tx)] 24))
  have I1 := hid (i1.below ((Below.refl w1.heap.size w1).alloc (Nat.le_refl _) (.cells #[.int .u8 K, .string (bs NM), .slice a1 k1 c1, .bool cl, .string (bs tx)] 24)))
  clear b1 i1
  go_wp2_with fail
  refine (H2.out _).mono ?_
  rintro e w2 ⟨⟨a2, k2, c2, rfl, i2, l2, _⟩, b2⟩
  unfold tokV
  have b3 := b2.alloc b2.size (.cells #[.int .u8 K, .string (bs NM), .slice a2 k2 c2, .bool cl, .string (bs tx)] 24)
  have Z2 := hid (Z1.out.below b3 Z1.out.lt)
  have J1 := hid (I1.out.below b3)
  have J2 := hid (i2.below ((Below.refl w2.heap.size w2).alloc (Nat.le_refl _) (.cells #[.int .u8 K, .string (bs NM), .slice a2 k2 c2, .bool cl, .string (bs tx)] 24)))
  have Y2 := hid (BlkW.new w2 #[.int .u8 K, .string (bs NM), .slice a2 k2 c2, .bool cl, .string (bs tx)] 24)
  have B3 := hid (B1.out.trans (b3.mono B1.out.size))
  have HT3 := hid (HBB.out _ _ HT.out B3.out)
  have n1 : w1.heap.size ≠ w2.heap.size := by have := Z1.out.lt; have := b2.size; omega
  clear b2 b3 i2 Z1 I1 B1
  go_wp2_with fail
  refine (HK.out _ HT3.out).mono ?_
  rintro e w3 ⟨rfl, b4⟩
  have L1 := hid (J1.out.below b4)
  have L2 := hid (J2.out.below b4)
  have Z4 := Z2.out.below b4 Z2.out.lt
  have Y4 := Y2.out.below b4 Y2.out.lt
  have B4 := hid (B3.out.trans (b4.mono B3.out.size))
  have p0 := Z4.cell 0
  have p1 := Z4.cell 1
  have p2 := Z4.cell 2
  have p3 := Z4.cell 3
  have p4 := Z4.cell 4
  have q0 := Y4.cell 0
  have q1 := Y4.cell 1
  have q2 := Y4.cell 2
  have q3 := Y4.cell 3
  have q4 := Y4.cell 4
  simp only [List.getElem?_toArray, List.getElem?_cons_zero, List.getElem?_cons_succ] at p0 p1 p2 p3 p4 q0 q1 q2 q3 q4
  clear b4 Z2 Y2 Z4 Y4 B3 HT3 J1 J2
  go_wp2_with fail
  refine (sameTok_any K NM cl tx ats a1 k1 c1 a2 k2 c2 _ L1.out L2.out (by omega) (by omega)).mono ?_
  rintro e w4 ⟨rfl, b5⟩
  have B5 := hid (B4.out.trans (b5.mono B4.out.size))
  clear b5 p0 p1 p2 p3 p4 q0 q1 q2 q3 q4
  go_wp2
  go_ret
  exact ⟨ret_bool' (by simp), B5.out⟩
set_option maxHeartbeats 4000000 in
theorem lall_any {EW : World → Prop} (HN : LexNC EW) (HA : LexAC EW) (HB : KeepsW EW) (s : ByteArray) (w : World) (hT : EW w) (ws : s.size ≤ maxLen) :
    Calls Tryz.prog 4 #[.string s] w fun e w' => e = .returned (.bool true) ∧ Below w.heap.size w w' := by
  unfold maxLen at ws
  have HT := hid hT
  by_cases hs : 2000 < s.size
  · have hd : decide ((2000 : Int) < (s.size : Int)) = true := by simp; omega
    clear hT HN HA HB
    go_enter Tryz.func4, Tryz.ntmps4
    go_wp2
    go_ret
    exact ⟨rfl, Below.refl _ _⟩
  have hd : decide ((2000 : Int) < (s.size : Int)) = false := by simp; omega
  have H1 := hid fun W hW => HA s W hW (by omega)
  have H2 := hid fun W => rall_any s W (by omega)
  have HK := hid (known9_any HN HA HB)
  have HBB := hid HB
  obtain ⟨L, hL⟩ : ∃ L, Lex.allAt s.data.toList 0 = L := ⟨_, rfl⟩
  unfold AllE at H1 H2
  rw [hL] at H1 H2
  obtain ⟨n, hn⟩ : ∃ n, L.length = n := ⟨_, rfl⟩
  rw [hn] at H1 H2
  clear hT HN HA HB hL hn
  go_enter Tryz.func4, Tryz.ntmps4
  go_wp2_with fail
  refine (HK.out _ HT.out).mono ?_
  rintro e w1 ⟨rfl, b1⟩
  have B1 := hid b1
  have HT1 := hid (HBB.out _ _ HT.out b1)
  clear b1
  go_wp2_with fail
  refine (H1.out _ HT1.out).mono ?_
  rintro e w2 ⟨⟨a1, c1, rfl, t1, l1⟩, b2⟩
  have B2 := hid (B1.out.trans (b2.mono B1.out.size))
  have T1 := hid t1
  clear b2 t1
  go_wp2_with fail
  refine (H2.out _).mono ?_
  rintro e w3 ⟨⟨a2, c2, rfl, t2, l2⟩, b3⟩
  have B3 := hid (B2.out.trans (b3.mono B2.out.size))
  have T1' := hid (T1.out.below b3)
  have T2 := hid t2
  clear b3 t2
  go_wp2_with fail
  refine (sameToks_any s.size n c1 c2 L a1 a2 _ T1'.out T2.out (by omega) (by omega)).mono ?_
  rintro e w4 ⟨rfl, b4⟩
  have B4 := hid (B3.out.trans (b4.mono B3.out.size))
  clear b4
  go_wp2
  go_ret
  exact ⟨rfl, B4.out⟩
end Go.Proofs.YtgldgdopabmefaaGreatDoor
