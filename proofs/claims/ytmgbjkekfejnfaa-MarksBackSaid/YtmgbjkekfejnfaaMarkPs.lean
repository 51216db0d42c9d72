/- Walks over the statements of layer 12: MarksPush, over what the program is known to do. -/
import Derived.Test.YtmgbjkekfejnfaaMarkLk
namespace Go.Proofs.Ytmgbjkekfejnfaa
open Go.RowKit Go.Lib
set_option maxRecDepth 100000
set_option linter.unusedVariables false
theorem cames_one {w : World} {r : MR} {x : Mk.M} (h : CameM w r x) : CamesM w [r] [x] := ⟨rfl, fun i r' x' hr hx => by
  match i, hr, hx with
  | 0, hr, hx =>
    simp at hr hx
    subst hr
    subst hx
    exact h
  | i + 1, hr, hx => simp at hr⟩
set_option maxHeartbeats 32000000 in
theorem mpush_any (K : MarksC) (a : Option Addr) (n c : Nat) (rs : List MR) (xs : List Mk.M) (r : MR) (x : Mk.M) (w : World) (h : RowM w a n rs) (hC : CamesM w rs xs) (h1 : n ≤ c) (h2 : c ≤ 9223372036854775807) (hsm : ∀ (i : Nat) r x, rs[i]? = some r → xs[i]? = some x → SizedM r x) (hn47 : n ≤ 281474976710656) (hm : CameM w r x) (hxn : x.name.length ≤ 281474976710656) :
    Calls Try.prog 3 #[.slice a n c, .agg #[.int .i64 r.id, .string (bs r.name), .slice r.aa r.an r.ac]] w fun e w' => e = .returned (.bool true) ∧ Below w.heap.size w w' := by
  obtain ⟨W, hW⟩ : ∃ W, w.alloc (.cells #[.int .i64 r.id, .string (bs r.name), .slice r.aa r.an r.ac] 25) = W := ⟨_, rfl⟩
  have bW : Below w.heap.size w W := by rw [← hW]; exact (Below.refl _ w).alloc (Nat.le_refl _) _
  have B0 : BlkW W w.heap.size #[.int .i64 r.id, .string (bs r.name), .slice r.aa r.an r.ac] 25 := by rw [← hW]; exact BlkW.new w _ _
  have hq0 := B0.cell 0
  have hq1 := B0.cell 1
  have hq2 := B0.cell 2
  simp only [List.getElem?_toArray, List.getElem?_cons_zero, List.getElem?_cons_succ] at hq0 hq1 hq2
  have HQ := hid fun V (hV : Below W.heap.size W V) => And.intro (cell_up hq0 hV) (And.intro (cell_up hq1 hV) (cell_up hq2 hV))
  have HM1 := hid (muchW_any a n c rs xs W (h.below bW) (hC.below bW) h1 h2 hsm hn47)
  have HM2 := hid fun V (hV : Below W.heap.size W V) g (hr : RowM V (some ⟨g, 0, none⟩) 1 [r]) => muchM_any (some ⟨g, 0, none⟩) 1 1 [r] [x] V hr (cames_one ((hm.below bW).below hV)) (Nat.le_refl _) (by omega)
  have HKN := hid fun W => knownM_any K W
  have HIN := hid fun (hn : n ≤ 1500) => (show MarksIn a n c rs xs W from ⟨h.below bW, (hC.below bW).fits, by omega, h1, h2⟩)
  have HFM := hid (hm.below bW).fit
  have KP := hid K.push
  have HSN := hid (short_of hC hsm)
  have HXN := hid hxn
  have Hb := hid bW
  have HW := hid hW
  clear h hC hsm hn47 hm hxn B0 hq0 hq1 hq2 hW bW
  go_enter Try.func3, Try.ntmps3
  go_wp2_with fail
  rw [HW.out]
  obtain ⟨P, hP⟩ : ∃ P, w.heap.size = P := ⟨_, rfl⟩
  rw [hP] at HQ ⊢
  have HP0 := hid hP
  clear hP HW
  refine HM1.out.mono ?_
  rintro e w1 ⟨⟨b1, rfl, hb1⟩, bx⟩
  have B1 := hid bx
  clear bx HM1
  cases b1 with
  | true =>
    clear hb1
    have BE := hid (Hb.out.trans (B1.out.mono Hb.out.size))
    go_wp2
    go_ret
    exact ⟨rfl, BE.out⟩
  | false =>
    obtain ⟨hn, hfw⟩ := hb1 rfl
    have HFW := hid (show ∀ r ∈ rs, r.an ≤ 4294967296 from fun r hr => Nat.le_trans (hfw r hr) (by omega))
    clear hfw
    have I0 := hid (HIN.out hn)
    have hxl : xs.length = n := I0.out.len
    clear hb1 HIN
    obtain ⟨z0, z1, z2⟩ := HQ.out w1 B1.out
    have hl1 := rowM_of_block (rs := [r]) (n := 1) rfl (BlkW.new w1 #[.int .i64 r.id, .string (bs r.name), .slice r.aa r.an r.ac] 25) rfl
    have ba1 := (Below.refl w1.heap.size w1).alloc (Nat.le_refl _) (.cells #[.int .i64 r.id, .string (bs r.name), .slice r.aa r.an r.ac] 25)
    have BA := hid (B1.out.trans (ba1.mono B1.out.size))
    have HM3 := hid (HM2.out _ BA.out _ hl1)
    clear hl1 ba1 HM2
    go_wp2_with fail
    refine HM3.out.mono ?_
    rintro e w2 ⟨⟨b2, rfl, _⟩, bx⟩
    have B2 := hid (BA.out.trans (bx.mono BA.out.size))
    clear bx HM3 BA z0 z1 z2
    cases b2 with
    | true =>
      have BE := hid (Hb.out.trans (B2.out.mono Hb.out.size))
      go_wp2
      go_ret
      exact ⟨rfl, BE.out⟩
    | false =>
      go_wp2_with fail
      refine (lentM_any a n c rs xs w2 (I0.out.below B2.out) (by omega) HFW.out).mono ?_
      rintro e w3 ⟨hL, bx⟩
      obtain ⟨v3, ss, rfl, ho, hsl, hA, hT⟩ := hL
      have B3 := hid (B2.out.trans (bx.mono B2.out.size))
      have hz3 := bx.size
      have HOW := hid (ho.alloc (.cells #[.int .i64 99, .string ⟨#[98, 101, 104, 105, 110, 100]⟩, .slice none 0 0] 25))
      have al := (Below.refl w3.heap.size w3).alloc (Nat.le_refl _) (.cells #[.int .i64 99, .string ⟨#[98, 101, 104, 105, 110, 100]⟩, .slice none 0 0] 25)
      have HNW := hid (BlkW.new w3 #[.int .i64 99, .string ⟨#[98, 101, 104, 105, 110, 100]⟩, .slice none 0 0] 25)
      have HA3 := hid (And.intro (hA.below al) (hT.below al))
      have HB3 := hid (B3.out.trans (al.mono B3.out.size))
      have HS := hid hsl
      clear bx ho hA hT al HFW hsl
      go_wp2_with (at_builtin; refine append_m rfl _ _ rfl w2.heap.size _ ss rfl HOW.out w3.heap.size _ ⟨99, [98, 101, 104, 105, 110, 100], none, 0, 0⟩ rfl HNW.out (by rw [HS.out]; omega) (by simp; omega) ?_)
      intro v4 w4 o1 g1
      have hB4 := HB3.out.grown g1 HB3.out.size (fun k hk => by have := own_ge HOW.out k hk; have := B2.out.size; omega)
      have hA4 := atts_grow HA3.out.1 HA3.out.2 HOW.out g1
      have B4 := hid hB4
      have hs2 := HS.out
      have o2 : w4.ownsRow w2.heap.size 25 3 v4 (ss ++ [(⟨99, [98, 101, 104, 105, 110, 100], none, 0, 0⟩ : MR)]).length (mL (ss ++ [⟨99, [98, 101, 104, 105, 110, 100], none, 0, 0⟩])) := row_lenM (by rw [List.length_append]; first | rfl | (rw [hs2]; rfl)) o1
      obtain ⟨ao, co, rfl, hro, hc1, hc2, _, _⟩ := own_rowM o2
      have hlen : (ss ++ [(⟨99, [98, 101, 104, 105, 110, 100], none, 0, 0⟩ : MR)]).length = n + 1 := by rw [List.length_append, hs2]; rfl
      rw [hlen] at hro hc1 ⊢
      have hlast : (ss ++ [(⟨99, [98, 101, 104, 105, 110, 100], none, 0, 0⟩ : MR)])[n]? = some ⟨99, [98, 101, 104, 105, 110, 100], none, 0, 0⟩ := by rw [List.getElem?_append_right (by omega), hs2]; simp
      have hro9 := hro
      obtain ⟨_, hx0 | ⟨ob, oo, rfl, _⟩⟩ := hro9
      · omega
      have hq9 := (hro.at_ hlast).1
      have hro2 := hro.take (show n ≤ n + 1 by omega)
      rw [show (ss ++ [(⟨99, [98, 101, 104, 105, 110, 100], none, 0, 0⟩ : MR)]).take n = ss by rw [← hs2, List.take_left]] at hro2
      have O4 := hid (show MarksIn (some ⟨ob, oo, none⟩) n co ss xs w4 from ⟨hro2, hA4.1, by omega, by omega, by unfold maxLen at hc2; omega⟩)
      have HQ9 := hid hq9
      have hnc : n ≤ co := by omega
      have hncI : (n : Int) ≤ (co : Int) := by omega
      have hn1I : (n : Int) < ((n + 1 : Nat) : Int) := by omega
      have hn0 : (0 : Int) ≤ (n : Int) := by omega
      obtain ⟨z0, z1, z2⟩ := HQ.out w4 B4.out
      have HPP := hid fun V (hV : Below w4.heap.size w4 V) => KP.out (some ⟨ob, oo, none⟩) n co ss xs r x V (O4.out.below hV) (HFM.out.below (B4.out.trans (hV.mono B4.out.size))) (by omega) HSN.out HXN.out
      have e0 := Below.refl w4.heap.size w4
      clear o1 g1 hB4 hA4 o2 hro hro2 hlast hq9 hlen hs2 HOW HNW HA3 HB3 hc1 hc2
      go_wp2
      first
        | (go_region_with (first | (go_at_call 9; (with_reducible refine (HPP.out _ e0.drew).mono ?_); rintro e w5 ⟨hN5, bx⟩; have B45 := hid (e0.drew.trans (bx.mono e0.drew.size)); have HN5 := hid hN5; obtain ⟨a5, c5, s5, rfl, m5, nb5, _⟩ := hN5)))
        | fail
      all_goals
        have O5 := hid (O4.out.below B45.out)
        have B5 := hid (B4.out.trans (B45.out.mono B4.out.size))
        obtain ⟨zs, hzs⟩ : ∃ zs, Mk.pushL xs x = zs := ⟨_, rfl⟩
        have hpl := Mk.push_len xs x
        rw [hzs] at m5 nb5 hpl ⊢
        obtain ⟨p, hp⟩ : ∃ p, zs.length = p := ⟨_, rfl⟩
        rw [hp] at m5 nb5 hpl ⊢
        have HZS := hid hzs
        have HPp := hid hp
        have M5 := hid m5
        obtain ⟨z0', z1', z2'⟩ := HQ.out w5 B5.out
        have HRP := hid (rpush_any a n c rs xs r x w5 (I0.out.below B5.out) (HFM.out.below B5.out) (by omega))
        rw [hzs] at HRP
        have HRM := hid (show p ≠ 0 → ∃ b off cs, a5 = some ⟨b, off, none⟩ ∧ BlkW w5 b cs 25 ∧ w4.heap.size ≤ b ∧ off + p * 3 ≤ cs.size from fun hp0 => spoil_room nb5 m5.row hp0)
        clear z0 z1 z2 hzs hp m5 nb5 HN5 bx HPP e0
        go_wp2_with fail
        refine HRP.out.mono ?_
        rintro e w6 ⟨⟨a6, c6, s6, rfl, m6, _, _⟩, bx⟩
        have B56 := hid bx
        rw [HPp.out] at m6 ⊢
        have HSM := hid (sameM_any a5 p c5 s5 zs a6 p c6 s6 zs w6 (M5.out.below bx) m6)
        clear bx m6 HRP z0' z1' z2'
        go_wp2_with fail
        refine HSM.out.mono ?_
        rintro e w7 ⟨⟨b7, rfl, hb7⟩, bx⟩
        obtain rfl : b7 = true := by simpa using hb7
        have B57 := hid (B56.out.trans (bx.mono B56.out.size))
        have HD := hid (B45.out.trans (B57.out.mono B45.out.size))
        have HRM := hid (show p ≠ 0 → ∃ b off cs, a5 = some ⟨b, off, none⟩ ∧ BlkW w7 b cs 25 ∧ w4.heap.size ≤ b ∧ off + p * 3 ≤ cs.size from fun hp0 => by
          obtain ⟨b, off, cs, e, hb, hB, hs⟩ := HRM.out hp0
          exact ⟨b, off, cs, e, hb.below B57.out hb.lt, hB, hs⟩)
        clear bx hb7 HSM M5 O5 B56 B57
        go_wp2
        go_loopg [8] p (fun g iv wr => ∃ i : Nat, i + g = p ∧ iv = .int .i64 i ∧ Hid (Below w4.heap.size w4 wr) ∧ Hid (p ≠ 0 → ∃ b off cs, a5 = some ⟨b, off, none⟩ ∧ BlkW wr b cs 25 ∧ w4.heap.size ≤ b ∧ off + p * 3 ≤ cs.size))
        case atStart => exact ⟨0, by omega, rfl, HD, HRM⟩
        case round =>
          clear HD HRM
          obtain ⟨i, hi, rfl, hb, hrm⟩ := hrel
          by_cases hlt : i < p
          · have d1 : decide (i < p) = true := decide_eq_true hlt
            have hltI : (i : Int) < (p : Int) := by omega
            obtain ⟨sb, so2, cs, rfl, kb, hB, hsz3⟩ := hrm.out (by omega)
            have x0 := kb.cell (so2 + i * 3)
            have x1 := kb.cell (so2 + i * 3 + 1)
            have x2 := kb.cell (so2 + i * 3 + 2)
            rw [Array.getElem?_eq_getElem (by omega)] at x0 x1 x2
            have y0 := kb.free (so2 + i * 3)
            have y1 := kb.free (so2 + i * 3 + 1)
            have y2 := kb.free (so2 + i * 3 + 2)
            generalize cs[so2 + i * 3] = u0 at *
            generalize cs[so2 + i * 3 + 1] = u1 at *
            generalize cs[so2 + i * 3 + 2] = u2 at *
            have HK := hid (((kb.set_ (so2 + i * 3) (.int .i64 (-9))).set_ (so2 + i * 3 + 1) (.string ⟨#[115, 112, 111, 105, 108, 116]⟩)).set_ (so2 + i * 3 + 2) (.slice none 0 0))
            have HBB := hid ((((hb.out.setCell (p := ⟨sb, so2 + i * 3, none⟩) hB (.int .i64 (-9))).setCell (p := ⟨sb, so2 + i * 3 + 1, none⟩) hB (.string ⟨#[115, 112, 111, 105, 108, 116]⟩)).setCell (p := ⟨sb, so2 + i * 3 + 2, none⟩) hB (.slice none 0 0)))
            have HSZ := hid hsz3
            clear kb hrm hb hsz3
            go_wp2
            go_roundg (p - (i + 1))
            case measure => omega
            case rel => exact ⟨i + 1, by omega, by go_num, HBB, hid fun _ => ⟨sb, so2, _, rfl, HK.out, hB, by simp; exact HSZ.out⟩⟩
          · have d1 : decide (i < p) = false := decide_eq_false hlt
            have hltI : ¬ (i : Int) < (p : Int) := by omega
            have BW := hid (B4.out.trans (hb.out.mono B4.out.size))
            clear hrm
            go_wp2_with fail
            refine (HKN.out wr).mono ?_
            rintro e w10 ⟨rfl, bx⟩
            have B410 := hid (hb.out.trans (bx.mono hb.out.size))
            have BX := hid (B4.out.trans (B410.out.mono B4.out.size))
            have OX := hid (O4.out.below B410.out)
            clear bx
            go_wp2_with fail
            refine (sameM_any (some ⟨ob, oo, none⟩) n co ss xs a n c rs xs w10 OX.out (I0.out.below BX.out)).mono ?_
            rintro e w11 ⟨⟨b11, rfl, hb11⟩, bx⟩
            obtain rfl : b11 = true := by simpa using hb11
            have B411 := hid (B410.out.trans (bx.mono B410.out.size))
            have BY := hid (B4.out.trans (B411.out.mono B4.out.size))
            have BE := hid (Hb.out.trans (BY.out.mono Hb.out.size))
            have q99 := cell_up HQ9.out B411.out
            clear bx hb11
            go_wp2
            go_ret
            exact ⟨rfl, BE.out⟩
end Go.Proofs.Ytmgbjkekfejnfaa
