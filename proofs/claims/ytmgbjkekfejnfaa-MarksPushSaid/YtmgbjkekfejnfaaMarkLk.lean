/- Walks over the statements of layer 12: MarksLooks, over what the program is known to do. -/
import Derived.Test.YtmgbjkekfejnfaaMarkBk
import Derived.Test.YtmgbjkekfejnfaaMarkLn
import Derived.Test.YtmgbjkekfejnfaaMarkMw
namespace Go.Proofs.Ytmgbjkekfejnfaa
open Go.RowKit Go.Lib
set_option maxRecDepth 100000
set_option linter.unusedVariables false
/-- Own marks, as the walks take them. -/
theorem lent_in {w w' : World} {v : Value} {n : Nat} {xs : List Mk.M} (h : LentM w w' (.returned v) n xs) (hn : n ≤ 4000000) : ∃ a c rs, v = .slice a n c ∧ MarksIn a n c rs xs w' := by
  obtain ⟨v', rs, e, ho, hl, hA, _⟩ := h
  cases e
  obtain ⟨a, c, rfl, hr, h1, h2, _, _⟩ := own_rowM ho
  rw [hl] at hr h1 ⊢
  exact ⟨a, c, rs, rfl, hr, hA, by omega, h1, by unfold maxLen at h2; omega⟩
theorem short_of {w : World} {rs : List MR} {xs : List Mk.M} (hC : CamesM w rs xs) (h : ∀ (i : Nat) r x, rs[i]? = some r → xs[i]? = some x → SizedM r x) : ShortM xs := fun x hx => by
  obtain ⟨i, hi⟩ := List.getElem?_of_mem hx
  obtain ⟨r, hr⟩ : ∃ r, rs[i]? = some r := ⟨_, List.getElem?_eq_getElem (by rw [hC.1]; exact (List.getElem?_eq_some_iff.1 hi).1)⟩
  exact (h i r x hr hi).2.1
/-- What may be spoilt: the list's cells lie in one block that may be written. -/
theorem spoil_room {w : World} {base : Nat} {a : Option Addr} {n : Nat} {rs : List MR} (h : NewB w base 25 a n) (hr : RowM w a n rs) (h0 : n ≠ 0) : ∃ b off cs, a = some ⟨b, off, none⟩ ∧ BlkW w b cs 25 ∧ base ≤ b ∧ off + n * 3 ≤ cs.size := by
  obtain ⟨b, off, cs, rfl, hb, hB⟩ := h.resolve_left h0
  refine ⟨b, off, cs, rfl, hb, hB, ?_⟩
  obtain ⟨r, hr2⟩ : ∃ r, rs[n - 1]? = some r := ⟨_, List.getElem?_eq_getElem (by have := hr.1; omega)⟩
  have := (hr.at_ hr2).2.2
  rw [hb.cell] at this
  have := (Array.getElem?_eq_some_iff.1 this).1
  omega
set_option maxHeartbeats 32000000 in
theorem mlooks_any (K : MarksC) (a : Option Addr) (n c : Nat) (rs : List MR) (xs : List Mk.M) (nm : List UInt8) (id : Int) (oa : Option Addr) (on oc : Nat) (l : List Opn.E) (w : World) (h : RowM w a n rs) (hC : CamesM w rs xs) (h1 : n ≤ c) (h2 : c ≤ 9223372036854775807) (hsm : ∀ (i : Nat) r x, rs[i]? = some r → xs[i]? = some x → SizedM r x) (hn47 : n ≤ 281474976710656)
    (hnm : nm.length ≤ 9223372036854775807) (i1 : -9223372036854775808 ≤ id) (i2 : id ≤ 9223372036854775807) (g : IsE w oa on l) (g1 : on ≤ oc) (g2 : oc ≤ 9223372036854775807) :
    Calls Try.prog 4 #[.slice a n c, .string (bs nm), .int .i64 id, .slice oa on oc] w fun e w' => e = .returned (.bool true) ∧ Below w.heap.size w w' := by
  have HM1 := hid (muchW_any a n c rs xs w h hC h1 h2 hsm hn47)
  have HKN := hid fun W => knownM_any K W
  have HIN := hid fun (hn : n ≤ 1500) => (show MarksIn a n c rs xs w from ⟨h, hC.fits, by omega, h1, h2⟩)
  have HG := hid g
  have HSN := hid (short_of hC hsm)
  have KC := hid K.clear
  have KL := hid fun (a : Option Addr) (n c : Nat) (rs : List MR) (xs : List Mk.M) (w : World) h hn => K.last a n c rs xs nm w h hn
  have KF := hid K.find
  have KO := hid K.lost
  have RL := hid fun W h => rlast_any a n c rs xs nm W h
  have hsz : (bs nm).size ≤ 9223372036854775807 := hnm
  clear h hC hsm hn47 g hnm
  generalize bs nm = X at *
  go_enter Try.func4, Try.ntmps4
  go_wp2_with fail
  refine HM1.out.mono ?_
  rintro e w1 ⟨⟨b1, rfl, hb1⟩, bx⟩
  have B1 := hid bx
  clear bx HM1
  cases b1 with
  | true =>
    clear hb1
    go_wp2
    go_ret
    exact ⟨rfl, B1.out⟩
  | false =>
    obtain ⟨hn, hfw⟩ := hb1 rfl
    have HFW := hid (show ∀ r ∈ rs, r.an ≤ 4294967296 from fun r hr => Nat.le_trans (hfw r hr) (by omega))
    clear hfw
    have I0 := hid (HIN.out hn)
    have hxl : xs.length = n := I0.out.len
    clear hb1 HIN
    by_cases hX : X.size ≤ 1500
    · have d1 : decide ((1500 : Int) < (X.size : Int)) = false := decide_eq_false (by omega)
      have d1' : ¬ (1500 : Int) < (X.size : Int) := by omega
      by_cases hO : on ≤ 1500
      · have d2 : decide ((1500 : Int) < (on : Int)) = false := decide_eq_false (by omega)
        have d2' : ¬ (1500 : Int) < (on : Int) := by omega
        go_wp2_with fail
        refine (lentM_any a n c rs xs w1 (I0.out.below B1.out) (by omega) HFW.out).mono ?_
        rintro e w2 ⟨hL, bx⟩
        have hL2 := hL
        obtain ⟨v2, s2, rfl, _⟩ := hL2
        obtain ⟨ao, co, so, rfl, mo⟩ := lent_in hL (by omega)
        have B2 := hid (B1.out.trans (bx.mono B1.out.size))
        have O2 := hid mo
        clear bx hL mo HFW d1 d1' d2 d2'
        go_wp2_with fail
        refine (KC.out ao n co so xs w2 O2.out (by omega) HSN.out).mono ?_
        rintro e w3 ⟨⟨ac, cc, sc, rfl, mc, nb, _⟩, bx⟩
        have B3 := hid (B2.out.trans (bx.mono B2.out.size))
        have B23 := hid bx
        have O3 := hid (O2.out.below bx)
        have hcl : (Mk.clearL xs).length ≤ n := by unfold Mk.clearL; rw [List.length_take]; omega
        obtain ⟨zs, hzs⟩ : ∃ zs, Mk.clearL xs = zs := ⟨_, rfl⟩
        rw [hzs] at mc nb hcl ⊢
        have HZS := hid hzs
        obtain ⟨p, hp⟩ : ∃ p, zs.length = p := ⟨_, rfl⟩
        rw [hp] at mc nb hcl ⊢
        have M3 := hid mc
        have NB := hid nb
        have HP := hid hp
        clear bx mc nb hzs hp
        go_wp2_with fail
        refine (rclear_any a n c rs xs w3 (I0.out.below B3.out)).mono ?_
        rintro e w4 ⟨⟨ar, cr, sr, rfl, mr, _, _⟩, bx⟩
        have B4 := hid (B3.out.trans (bx.mono B3.out.size))
        have O4 := hid (O3.out.below bx)
        have M4 := hid (M3.out.below bx)
        have D4 := hid bx
        rw [HZS.out, HP.out] at mr ⊢
        have HSM := hid (sameM_any ac p cc sc zs ar p cr sr zs w4 M4.out mr)
        clear bx mr
        go_wp2_with fail
        refine HSM.out.mono ?_
        rintro e w5 ⟨⟨b5, rfl, hb5⟩, bx⟩
        obtain rfl : b5 = true := by simpa using hb5
        have B5 := hid (B4.out.trans (bx.mono B4.out.size))
        have D5 := hid (D4.out.trans (bx.mono D4.out.size))
        have O5 := hid (O4.out.below bx)
        clear bx hb5 HSM
        go_wp2_with fail
        refine (KL.out ao n co so xs w5 O5.out (by omega)).mono ?_
        rintro e w6 ⟨rfl, bx⟩
        have B6 := hid (B5.out.trans (bx.mono B5.out.size))
        have D6 := hid (D5.out.trans (bx.mono D5.out.size))
        have O6 := hid (O5.out.below bx)
        clear bx
        go_wp2_with fail
        refine (RL.out w6 (I0.out.below B6.out)).mono ?_
        rintro e w6b ⟨rfl, rfl⟩
        generalize Mk.lastI xs nm (Mk.behind xs n) n = R1 at *
        have t1 : (R1 == R1) = true := by simp
        go_wp2_with fail
        refine (KF.out ao n co so xs id w6 O6.out (by omega) i1 i2).mono ?_
        rintro e w7 ⟨rfl, bx⟩
        have B7 := hid (B6.out.trans (bx.mono B6.out.size))
        have D7 := hid (D6.out.trans (bx.mono D6.out.size))
        have O7 := hid (O6.out.below bx)
        clear bx
        go_wp2_with fail
        refine (rfind_any a n c rs xs id w7 (I0.out.below B7.out)).mono ?_
        rintro e w7b ⟨rfl, rfl⟩
        generalize findR xs id = R2 at *
        have t2 : (R2 == R2) = true := by simp
        go_wp2_with fail
        refine (KO.out ao n co so xs oa on oc l w7 O7.out (HG.out.below B7.out) (by omega) (by omega) g1 g2).mono ?_
        rintro e w8 ⟨rfl, bx⟩
        have B8 := hid (B7.out.trans (bx.mono B7.out.size))
        have D8 := hid (D7.out.trans (bx.mono D7.out.size))
        have O8 := hid (O7.out.below bx)
        clear bx
        go_wp2_with fail
        refine (rlost_any a n c rs xs oa on oc l w8 (I0.out.below B8.out) (HG.out.below B8.out) (by omega)).mono ?_
        rintro e w9 ⟨rfl, bx⟩
        have B9 := hid (B8.out.trans (bx.mono B8.out.size))
        have D9 := hid (D8.out.trans (bx.mono D8.out.size))
        have O9 := hid (O8.out.below bx)
        clear bx
        generalize Mk.lostN xs (l.map (·.id)) n = R3 at *
        have t3 : ((R3 : Int) == (R3 : Int)) = true := by simp
        go_wp2
        have HRM := hid (show p ≠ 0 → ∃ b off cs, ac = some ⟨b, off, none⟩ ∧ BlkW w9 b cs 25 ∧ w2.heap.size ≤ b ∧ off + p * 3 ≤ cs.size from fun hp0 => by
          obtain ⟨b, off, cs, e, hb, hB, hs⟩ := spoil_room NB.out M3.out.row hp0
          exact ⟨b, off, cs, e, hb.below D9.out hb.lt, hB, hs⟩)
        have HD2 := hid (show Below w2.heap.size w2 w9 from B23.out.trans (D9.out.mono B23.out.size))
        clear t1 t2 t3 D4 D5 D6 D7 D8 D9 O3 O4 O5 O6 O7 O8 O9 M3 M4 NB B23
        go_loopg [12] p (fun g iv wr => ∃ i : Nat, i + g = p ∧ iv = .int .i64 i ∧ Hid (Below w2.heap.size w2 wr) ∧ Hid (p ≠ 0 → ∃ b off cs, ac = some ⟨b, off, none⟩ ∧ BlkW wr b cs 25 ∧ w2.heap.size ≤ b ∧ off + p * 3 ≤ cs.size))
        case atStart => exact ⟨0, by omega, rfl, HD2, HRM⟩
        case round =>
          clear HD2 HRM
          obtain ⟨i, hi, rfl, hb, hrm⟩ := hrel
          by_cases hlt : i < p
          · have d1 : decide (i < p) = true := decide_eq_true hlt
            have hltI : (i : Int) < (p : Int) := by omega
            obtain ⟨sb, so2, cs, rfl, kb, hB, hsz3⟩ := hrm.out (by omega)
            have x0 := kb.cell (so2 + i * 3)
            have x1 := kb.cell (so2 + i * 3 + 1)
            have x2 := kb.cell (so2 + i * 3 + 2)
            rw [Array.getElem?_eq_getElem (by omega)] at x0 x1 x2
            have y0 := kb.free (so2 + i * 3)
            have y1 := kb.free (so2 + i * 3 + 1)
            have y2 := kb.free (so2 + i * 3 + 2)
            generalize cs[so2 + i * 3] = u0 at *
            generalize cs[so2 + i * 3 + 1] = u1 at *
            generalize cs[so2 + i * 3 + 2] = u2 at *
            have HK := hid (((kb.set_ (so2 + i * 3) (.int .i64 (-9))).set_ (so2 + i * 3 + 1) (.string ⟨#[115, 112, 111, 105, 108, 116]⟩)).set_ (so2 + i * 3 + 2) (.slice none 0 0))
            have HBB := hid ((((hb.out.setCell (p := ⟨sb, so2 + i * 3, none⟩) hB (.int .i64 (-9))).setCell (p := ⟨sb, so2 + i * 3 + 1, none⟩) hB (.string ⟨#[115, 112, 111, 105, 108, 116]⟩)).setCell (p := ⟨sb, so2 + i * 3 + 2, none⟩) hB (.slice none 0 0)))
            have HSZ := hid hsz3
            clear kb hrm hb hsz3
            go_wp2
            go_roundg (p - (i + 1))
            case measure => omega
            case rel => exact ⟨i + 1, by omega, by go_num, HBB, hid fun _ => ⟨sb, so2, _, rfl, HK.out, hB, by simp; exact HSZ.out⟩⟩
          · have d1 : decide (i < p) = false := decide_eq_false hlt
            have hltI : ¬ (i : Int) < (p : Int) := by omega
            have BW := hid (B2.out.trans (hb.out.mono B2.out.size))
            clear hrm
            go_wp2_with fail
            refine (HKN.out wr).mono ?_
            rintro e w10 ⟨rfl, bx⟩
            have BX := hid (BW.out.trans (bx.mono BW.out.size))
            have OX := hid (O2.out.below (hb.out.trans (bx.mono hb.out.size)))
            clear bx
            go_wp2_with fail
            refine (sameM_any ao n co so xs a n c rs xs w10 OX.out (I0.out.below BX.out)).mono ?_
            rintro e w11 ⟨⟨b11, rfl, hb11⟩, bx⟩
            obtain rfl : b11 = true := by simpa using hb11
            have BY := hid (BX.out.trans (bx.mono BX.out.size))
            clear bx hb11
            go_wp2
            go_ret
            exact ⟨rfl, BY.out⟩
      · have d2 : decide ((1500 : Int) < (on : Int)) = true := decide_eq_true (by omega)
        have d2' : (1500 : Int) < (on : Int) := by omega
        go_wp2
        go_ret
        exact ⟨rfl, B1.out⟩
    · have d1 : decide ((1500 : Int) < (X.size : Int)) = true := decide_eq_true (by omega)
      have d1' : (1500 : Int) < (X.size : Int) := by omega
      go_wp2
      go_ret
      exact ⟨rfl, B1.out⟩
end Go.Proofs.Ytmgbjkekfejnfaa
