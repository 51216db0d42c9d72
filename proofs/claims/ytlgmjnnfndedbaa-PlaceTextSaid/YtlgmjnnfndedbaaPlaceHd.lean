/- Walks over package tympanlaw13: PlaceHolds. Written by tools/gen_pholds.py. -/
import Derived.Test.YtlgmjnnfndedbaaPlaceKn
import Derived.Test.YtlgmjnnfndedbaaPlaceOp
import Derived.Test.YtlgmjnnfndedbaaFrameP
import Derived.Test.YtlgmjnnfndedbaaPlaceHo
namespace Go.Proofs.Ytlgmjnnfndedbaa
open Go.RowKit Go.Lib
set_option maxRecDepth 100000
set_option linter.unusedVariables false
theorem bnd_fit {t : Dom.T} {L C : Nat} (h : Bnd t L C) (hL : L ≤ 12000) (hC : C ≤ 41000) : Fit t := ⟨by have := h.1; omega, fun i => Nat.le_trans (h.2 i) (by omega), L, C, h.1, h.2, Nat.le_trans (Nat.mul_le_mul hL hC) (by decide)⟩
theorem bnd_ins {s : Plc.St} {L C : Nat} (h : Bnd s.t L C) (sp : Nat) (nm : List UInt8) (atts : List (List UInt8 × List UInt8)) (hc : Dom.cost (Plc.elemN sp nm atts) ≤ C) : Bnd (Plc.ins s sp nm atts).t (L + 1) C := by
  show Bnd (Dom.putT (Dom.makeT s.t (Plc.elemN sp nm atts)).1 _ _ _).1 _ _
  exact (bnd_make h _ hc).same (sameNd_put _ _ _ _)
theorem bnd_wr {s : Plc.St} {L C : Nat} (h : Bnd s.t L C) (hC : 1 ≤ C) (x : List UInt8) (hx : x.length ≤ 3207) : Bnd (Plc.write s x).t (L + 1) (C + 402) := by
  show Bnd (Dom.writeT s.t _ _ x).1 _ _
  exact (bnd_write h hC _ _ x 401 (by omega)).wide (Nat.le_refl _) (by omega)
theorem cost_elem (sp : Nat) (x : POp) (h : x.Small) : Dom.cost (Plc.elemN sp x.nm x.atts) ≤ 400 := by
  obtain ⟨_, _, _, _, h5⟩ := h
  show (1 + 0 / 8 + x.nm.length / 8) + Dom.sumA x.atts ≤ 400
  omega
theorem close_t (s : Plc.St) (n : Int) : (Plc.close s n).t = s.t := by unfold Plc.close; split <;> rfl
theorem kw_insx (w : World) (R : Nat) (s : Plc.St) (hO : Plc.Ok s) (L C : Nat) (hB : Bnd s.t L C) (hL : L + 1 ≤ 12000) (hC : C ≤ 41000) (hC0 : 400 ≤ C) (x : POp) (hx : x.Small) (sp : Nat) (aa : Option Addr) (an ac : Nat) (hA : IsA w aa an x.atts) (hnil : aa = none → ac = 0) (W : World) (h : KW w W R s) :
    Calls Try.prog 10 #[.pointer (some ⟨R, 0, none⟩), .int .u8 sp, .agg #[.int .u8 x.tk, .string (bs x.nm), .slice aa an ac, .bool x.cl, .string (bs x.tx)]] W fun e W' => e = .returned (.int .i64 (Plc.nextI s)) ∧ KW w W' R (Plc.ins s sp x.nm x.atts) := by
  have hb := h.below
  have hc := cost_elem sp x hx
  have hb2 := bnd_make hB (Plc.elemN sp x.nm x.atts) (by omega)
  obtain ⟨S, Rt, ov, mv, rs, St, h1, h2⟩ := h
  refine (pins_wany w W R Rt S St s ov mv rs h1 hO (bnd_fit hB (by omega) hC) hb sp x.tk x.nm (bs x.tx) x.cl aa an ac x.atts hA hnil (bnd_fit hb2 hL hC) (by omega) (by rw [← hA.1]; have := hx.2.2.1; omega) (fun p hp => by have := (hx.2.2.2.1 p hp).2; omega) (by have := hx.2.1; omega)).mono ?_
  rintro e W' ⟨rfl, S', ov', St', g1, g2⟩
  exact ⟨rfl, S', Rt, ov', mv, rs, St', g1, h2.trans g2⟩
theorem kw_close (w : World) (R : Nat) (s : Plc.St) (hO : Plc.Ok s) (hf : s.op.length ≤ 12000) (n : Int) (W : World) (h : KW w W R s) :
    Calls Try.prog 18 #[.pointer (some ⟨R, 0, none⟩), .int .i64 n] W fun e W' => (∃ v, e = .returned v) ∧ KW w W' R (Plc.close s n) := by
  obtain ⟨S, Rt, ov, mv, rs, St, h1, h2⟩ := h
  refine (pclose_any w W R Rt S St s ov mv rs n h1 hO (by omega)).mono ?_
  rintro e W' ⟨he, g⟩
  exact ⟨he, KW.turned h2 g⟩
theorem kw_wrx (w : World) (R : Nat) (s : Plc.St) (x : List UInt8) (hO : Plc.Ok s) (hF : Fit s.t) (hx : x.length ≤ 3207) (W : World) (h : KW w W R s) :
    Calls Try.prog 14 #[.pointer (some ⟨R, 0, none⟩), .string (bs x)] W fun e W' => (∃ v, e = .returned v) ∧ KW w W' R (Plc.write s x) := by
  obtain ⟨S, Rt, ov, mv, rs, St, h1, h2⟩ := h
  refine (pwr_any w W R Rt S St s ov mv rs h1 hO hF x (by omega)).mono ?_
  rintro e W' ⟨he, g⟩
  exact ⟨he, KW.turned h2 g⟩
theorem kw_where (w : World) (R : Nat) (s : Plc.St) (hO : Plc.Ok s) (hF : Fit s.t) (x : Opn.E) (W : World) (h : KW w W R s) :
    Calls Try.prog 28 #[.pointer (some ⟨R, 0, none⟩), .agg #[.int .i64 x.id, .int .u8 x.space, .string (bs x.name), .int .u8 x.point]] W fun e W' => e = .returned (.tuple #[.int .i64 (Plc.whereP s x).1, .int .i64 (Plc.whereP s x).2]) ∧ KW w W' R s := by
  have h0 := h
  obtain ⟨S, Rt, ov, mv, rs, St, h1, h2⟩ := h
  refine (pwhere_any w W R Rt S St s ov mv rs h1 hO hF x).mono ?_
  rintro e W' ⟨he, hb⟩
  exact ⟨he, h0.later hb⟩
theorem kw_parent (w : World) (R : Nat) (s : Plc.St) (hO : Plc.Ok s) (hF : Fit s.t) (i : Int) (W : World) (h : KW w W R s) : ∃ Rt, W.cell? ⟨R, 0, none⟩ = some (.pointer (some ⟨Rt, 0, none⟩)) ∧
    Calls Try.prog 29 #[.pointer (some ⟨Rt, 0, none⟩), .int .i64 i] W fun e W' => e = .returned (.int .i64 (Dom.parentT s.t i)) ∧ KW w W' R s := by
  have h0 := h
  obtain ⟨S, Rt, ov, mv, rs, St, h1, h2⟩ := h
  refine ⟨Rt, h1.cells.1, (domM_all.parent W w.heap.size Rt St s.t i True.intro h1.tree hO.good hF).mono ?_⟩
  rintro e W' ⟨he, hb⟩
  exact ⟨he, h0.later hb⟩
/-- What the statement reads of a World: its first open element, how many are open, how many were. -/
theorem kw_reads {w W : World} {R : Nat} {s : Plc.St} (hO : Plc.Ok s) (h : KW w W R s) : ∃ g cap, W.cell? ⟨R, 1, none⟩ = some (.slice (some ⟨g, 0, none⟩) s.op.length cap) ∧ s.op.length ≤ cap ∧ cap ≤ 9223372036854775807 ∧ W.cell? ⟨R, 4, none⟩ = some (.int .i64 s.hi) ∧
    W.cell? ⟨g, 0, none⟩ = some (.int .i64 0) ∧ W.cell? ⟨g, 1, none⟩ = some (.int .u8 0) ∧ W.cell? ⟨g, 2, none⟩ = some (.string ⟨#[104, 116, 109, 108]⟩) ∧ W.cell? ⟨g, 3, none⟩ = some (.int .u8 0) ∧ W.frozen? ⟨R, 3, none⟩ = false ∧ W.cell? ⟨R, 3, none⟩ = some (.bool s.fo) := by
  obtain ⟨S, Rt, ov, mv, rs, St, h1, h2⟩ := h
  obtain ⟨g, cap, rfl, hc1, hc2, hE⟩ := h1.view hO
  obtain ⟨_, c1, _, c3, c4⟩ := h1.cells
  obtain ⟨x0, x1, x2, x3⟩ := isE_at0 hE hO.root
  exact ⟨g, cap, c1, hc1, hc2, c4, x0, x1, x2, x3, h1.top.free 3, c3⟩
set_option maxHeartbeats 64000000 in
theorem pholds13_any (a : Option Addr) (n c : Nat) (os : List POp) (w : World) (h : IsPops w a n os) (hf : ∀ x ∈ os, popFits x) (hz : ∀ x ∈ os, x.Sized) (hn : n ≤ 281474976710656) :
    Calls Try.prog 5 #[.slice a n c] w fun e w' => e = .returned (.bool true) ∧ Below w.heap.size w w' := by
  have HHV := hid (pheavy_any a n c os w h hz hn)
  have HH := hid h
  have HF := hid hf
  clear h hz hf
  go_enter Try.func5, Try.ntmps5
  go_wp2_with fail
  refine HHV.out.mono ?_
  rintro e w1 ⟨⟨b, rfl, hb⟩, b1⟩
  have B1 := hid b1
  have HS := hid hb
  clear b1 HHV hb
  cases b with
  | true =>
    go_wp2_with fail
    refine (pknown13_any _).mono ?_
    rintro e w2 ⟨rfl, b2⟩
    have B2 := hid (B1.out.trans (b2.mono B1.out.size))
    clear b2
    go_wp2_with fail
    go_ret
    exact ⟨rfl, B2.out⟩
  | false =>
    obtain ⟨hn100, hsm⟩ := HS.out rfl
    have HSM := hid hsm
    clear hsm HS
    go_wp2_with fail
    refine (pknown13_any _).mono ?_
    rintro e w2 ⟨rfl, b2⟩
    have B2 := hid (B1.out.trans (b2.mono B1.out.size))
    clear b2 B1
    go_wp2_with fail
    refine (kw_new w2).mono ?_
    rintro e w3 ⟨R, rfl, h3⟩
    have H3 := hid h3
    clear h3
    go_wp2_with fail
    go_loopg [4] n (fun gk iv wr => ∃ (j : Nat) (s : Plc.St), j + gk = n ∧ iv = .int .i64 j ∧ Hid (KW w2 wr R s) ∧ Hid (Plc.Ok s) ∧ Hid (Bnd s.t (j + 1) (400 + 402 * j)))
    case atStart => exact ⟨0, Plc.new, by omega, rfl, H3, hid Plc.ok_new, hid (bnd_new.wide (by omega) (by omega))⟩
    case round =>
      clear H3
      obtain ⟨j, s, hj, rfl, HK, HO, HB⟩ := hrel
      by_cases hlt : j < n
      · have d1 : decide (j < n) = true := decide_eq_true hlt
        have hltI : (j : Int) < (n : Int) := by omega
        obtain ⟨x, hx⟩ : ∃ x, os[j]? = some x := ⟨_, List.getElem?_eq_getElem (by have := HH.out.1; omega)⟩
        have hxm := List.mem_of_getElem? hx
        obtain ⟨bq, off, rfl, hat⟩ := HH.out.2.resolve_left (by omega)
        obtain ⟨aa, an, ac, X⟩ := hat j x hx
        have hXS := HSM.out x hxm
        obtain ⟨fk, fs, ft, _, _, _, _, fn⟩ := HF.out x hxm
        have HXB := hid fun V (hV : Below w2.heap.size w2 V) => X.below (B2.out.trans (hV.mono B2.out.size))
        have HAA := hid (show IsA w2 aa an x.atts from X.atts.below B2.out)
        have HAN := hid X.nil
        have HXS := hid hXS
        have XB := HXB.out wr HK.out.below
        have k0 := XB.k0
        have k1 := XB.k1
        have t0 := XB.t0
        have t1 := XB.t1
        have t2 := XB.t2
        have t3 := XB.t3
        have t4 := XB.t4
        have n7 := XB.n7
        have y8 := XB.y8
        obtain ⟨_, _, _, _, _, c4, _, _, _, _, _, _⟩ := kw_reads HO.out HK.out
        obtain ⟨hi, hhi⟩ : ∃ hi, s.hi = hi := ⟨_, rfl⟩
        rw [hhi] at c4
        have HHi := hid hhi
        have ek : ((x.kind : Nat) : Int).tmod 4 = ((x.kind % 4 : Nat) : Int) := by rw [Int.tmod_eq_emod_of_nonneg (by omega)]; omega
        obtain ⟨sq, hsq⟩ : ∃ sq, x.space % 3 = sq := ⟨_, rfl⟩
        have es : ((x.space : Nat) : Int).tmod 3 = (sq : Int) := by rw [Int.tmod_eq_emod_of_nonneg (by omega)]; omega
        have hsp : sq < 256 := by omega
        clear hsq
        clear X XB hat hx hxm hhi hXS
        have hq : x.kind % 4 = 0 ∨ x.kind % 4 = 1 ∨ x.kind % 4 = 2 ∨ x.kind % 4 = 3 := by omega
        rcases hq with hq | hq | hq | hq
        · rw [hq] at ek
          have HIN := hid fun V (hV : KW w2 V R s) => kw_insx w2 R s HO.out (j + 1) (400 + 402 * j) HB.out (by omega) (by omega) (by omega) x HXS.out sq aa an ac HAA.out HAN.out V hV
          have HO2 := hid (HO.out.ins hsp x.nm x.atts)
          have HB2 : Hid (Bnd (Plc.ins s sq x.nm x.atts).t (j + 1 + 1) (400 + 402 * (j + 1))) := hid ((bnd_ins HB.out sq x.nm x.atts (by have := cost_elem sq x HXS.out; omega)).wide (Nat.le_refl _) (by omega))
          have HHI := hid (show hi ≤ (Plc.ins s sq x.nm x.atts).hi from by rw [← HHi.out]; exact Plc.hi_ins s _ _ _)
          have HCU := hid (Plc.cur_ins s sq x.nm x.atts)
          have kd := HK.out.later (Below.refl wr.heap.size wr).drew
          have HKD := hid kd
          have XD := HXB.out _ kd.below
          have SA := hid (And.intro k1 (And.intro t0 (And.intro t1 (And.intro t2 (And.intro t3 t4)))))
          have SB := hid (And.intro XD.k1 (And.intro XD.t0 (And.intro XD.t1 (And.intro XD.t2 (And.intro XD.t3 XD.t4)))))
          clear kd XD
          generalize Plc.ins s sq x.nm x.atts = s2 at *
          obtain ⟨NI, hNI⟩ : ∃ NI, Plc.nextI s = NI := ⟨_, rfl⟩
          rw [hNI] at HIN HCU
          clear hNI HK
          go_wp2_with fail
          go_region_held3 (fun V => V.cell? ⟨bq, off + j * 9 + 1, none⟩ = some (.int .u8 x.space) ∧ V.cell? ⟨bq, off + j * 9 + 2, none⟩ = some (.int .u8 x.tk) ∧ V.cell? ⟨bq, off + j * 9 + 2 + 1, none⟩ = some (.string (bs x.nm)) ∧ V.cell? ⟨bq, off + j * 9 + 2 + 2, none⟩ = some (.slice aa an ac) ∧ V.cell? ⟨bq, off + j * 9 + 2 + 3, none⟩ = some (.bool x.cl) ∧ V.cell? ⟨bq, off + j * 9 + 2 + 4, none⟩ = some (.string (bs x.tx)))
            (first | exact SB.out | exact SA.out)
            (first
              | (go_at_call 10; (with_reducible refine (HIN.out _ HKD.out).mono ?_); rintro e w4 ⟨rfl, h4⟩; have H4 := hid h4; have XD4 := HXB.out _ h4.below; have SA := hid (And.intro XD4.k1 (And.intro XD4.t0 (And.intro XD4.t1 (And.intro XD4.t2 (And.intro XD4.t3 XD4.t4))))); clear h4 XD4))
          have HK2 := hid H4.out
          have HC1 := hid fun V (hV : KW w2 V R s2) => kw_cur w2 R s2 HO2.out (by have := HO2.out.few; have := HB2.out.1; omega) V hV
          unfold eV at HC1
          rw [HCU.out] at HC1
          obtain ⟨pt, hpt⟩ : ∃ pt, Plc.pointN sq x.nm x.atts = pt := ⟨_, rfl⟩
          rw [hpt] at HC1
          have fl0 := open_field0 NI sq (bs x.nm) pt
          have fl2 := open_field2 NI sq (bs x.nm) pt
          obtain ⟨nm, hnm⟩ : ∃ nm, bs x.nm = nm := ⟨_, rfl⟩
          have HT1 := hid fun V (hV : KW w2 V R s2) => show V.cell? ⟨bq, off + j * 9 + 2 + 1, none⟩ = some (.string nm) from by rw [← hnm]; exact (HXB.out V hV.below).t1
          rw [hnm] at fl0 fl2 HC1
          have SA := hid (HT1.out _ HK2.out)
          have kd := HK2.out.later (Below.refl w4.heap.size w4).drew
          have k4 := HK2.out
          have SB := hid (HT1.out _ kd)
          clear HKD HIN k0 k1 t0 t1 t2 t3 t4 n7 y8 c4 ek hpt hnm H4
          go_wp2_with fail
          go_region_held3 (fun V => V.cell? ⟨bq, off + j * 9 + 2 + 1, none⟩ = some (.string nm))
            (first | exact SB.out | exact SA.out)
            (first
              | (go_at_call 27; (with_reducible refine (HC1.out _ (by assumption)).mono ?_); rintro e w5 ⟨rfl, h5⟩; have SA := hid (HT1.out _ h5)))
          have HK2 := hid h5
          clear SA SB kd k4 HC1 HT1 fl0 fl2 h5
          obtain ⟨g8, cap8, c1, hc1, hc2, c4, x0, x1, x2, x3, _, _⟩ := kw_reads HO2.out HK2.out
          have HZ := hid HK2.out
          have hN0 := HO2.out.pos
          have hNH := HO2.out.high.1
          have hHH := HHI.out
          obtain ⟨NO, hNO⟩ : ∃ NO, s2.op.length = NO := ⟨_, rfl⟩
          obtain ⟨HI2, hHI2⟩ : ∃ HI2, s2.hi = HI2 := ⟨_, rfl⟩
          rw [hNO] at c1 hc1 hN0 hNH
          rw [hHI2] at c4 hNH hHH
          have y1 : ((NO : Int) == 0) = false := by simp; omega
          have y1b : decide (NO = 0) = false := decide_eq_false (by omega)
          have y1c : ¬ (NO : Int) = 0 := by omega
          have y2 : decide ((HI2 : Int) < (hi : Int)) = false := decide_eq_false (by omega)
          have y2b : decide (HI2 < hi) = false := decide_eq_false (by omega)
          have y3 : decide ((HI2 : Int) < (NO : Int)) = false := decide_eq_false (by omega)
          have y3b : decide (HI2 < NO) = false := decide_eq_false (by omega)
          have y4 : (0 : Int) < (NO : Int) := by omega
          have HF2 := hid (bnd_fit HB2.out (by omega) (by omega))
          clear hNO hHI2 hN0 hNH hHH
          go_wp2_with fail
          go_quiet (fail)
          have HZ2 := hid (HZ.out.later (bel_drewN (Below.refl _ _) nq))
          clear c1 c4 x0 x1 x2 x3 y1 y1b y1c y2 y2b y3 y3b y4 HZ hc1 hc2
          go_wp2_with fail
          refine (kw_cur _ R _ HO2.out (by have := HO2.out.few; have := HB2.out.1; omega) _ HZ2.out).mono ?_
          unfold eV
          rintro e w8 ⟨rfl, h8⟩
          have HZ3 := hid h8
          clear h8 HZ2
          go_wp2_with fail
          refine (kw_where _ R _ HO2.out HF2.out (Plc.cur s2) _ HZ3.out).mono ?_
          rintro e w9 ⟨rfl, h9⟩
          obtain ⟨q1, q2⟩ := HO2.out.whereCur
          obtain ⟨P1, hP1⟩ : ∃ P1, (Plc.whereP s2 (Plc.cur s2)).1 = P1 := ⟨_, rfl⟩
          obtain ⟨P2, hP2⟩ : ∃ P2, (Plc.whereP s2 (Plc.cur s2)).2 = P2 := ⟨_, rfl⟩
          rw [hP1, hP2] at q2 ⊢
          rw [hP1] at q1
          have z1 : decide (P1 < 0) = false := decide_eq_false (by omega)
          have HZ4 := hid h9
          have HQ := hid q2
          clear h9 HZ3 hP1 hP2 q2
          by_cases hp : 0 ≤ P2
          · have z2 : decide (0 ≤ P2) = true := decide_eq_true hp
            obtain ⟨Rt9, c0, hPA⟩ := kw_parent _ R _ HO2.out HF2.out P2 _ HZ4.out
            rw [HQ.out hp] at hPA
            have HPA := hid hPA
            clear hPA HZ4 HQ
            go_wp2_with fail
            refine HPA.out.mono ?_
            rintro e w10 ⟨rfl, h10⟩
            have HZ5 := hid h10
            clear h10 c0 HPA
            go_wp2_with fail
            go_roundg (n - (j + 1))
            case measure => omega
            case rel => exact ⟨j + 1, _, by omega, by go_num, HZ5, HO2, HB2⟩
          · have z2 : decide (0 ≤ P2) = false := decide_eq_false hp
            clear HQ
            go_wp2_with fail
            go_roundg (n - (j + 1))
            case measure => omega
            case rel => exact ⟨j + 1, _, by omega, by go_num, HZ4, HO2, HB2⟩
        · rw [hq] at ek
          have HIN := hid fun V (hV : KW w2 V R s) => kw_insx w2 R s HO.out (j + 1) (400 + 402 * j) HB.out (by omega) (by omega) (by omega) x HXS.out sq aa an ac HAA.out HAN.out V hV
          have HO2 := hid (HO.out.ins hsp x.nm x.atts)
          have HB2 : Hid (Bnd (Plc.ins s sq x.nm x.atts).t (j + 1 + 1) (400 + 402 * (j + 1))) := hid ((bnd_ins HB.out sq x.nm x.atts (by have := cost_elem sq x HXS.out; omega)).wide (Nat.le_refl _) (by omega))
          have HHI := hid (show hi ≤ (Plc.ins s sq x.nm x.atts).hi from by rw [← HHi.out]; exact Plc.hi_ins s _ _ _)
          have HCU := hid (Plc.cur_ins s sq x.nm x.atts)
          have kd := HK.out.later (Below.refl wr.heap.size wr).drew
          have HKD := hid kd
          have XD := HXB.out _ kd.below
          have SA := hid (And.intro k1 (And.intro t0 (And.intro t1 (And.intro t2 (And.intro t3 t4)))))
          have SB := hid (And.intro XD.k1 (And.intro XD.t0 (And.intro XD.t1 (And.intro XD.t2 (And.intro XD.t3 XD.t4)))))
          clear kd XD
          generalize Plc.ins s sq x.nm x.atts = s2 at *
          obtain ⟨NI, hNI⟩ : ∃ NI, Plc.nextI s = NI := ⟨_, rfl⟩
          rw [hNI] at HIN HCU
          clear hNI HK
          go_wp2_with fail
          go_region_held3 (fun V => V.cell? ⟨bq, off + j * 9 + 1, none⟩ = some (.int .u8 x.space) ∧ V.cell? ⟨bq, off + j * 9 + 2, none⟩ = some (.int .u8 x.tk) ∧ V.cell? ⟨bq, off + j * 9 + 2 + 1, none⟩ = some (.string (bs x.nm)) ∧ V.cell? ⟨bq, off + j * 9 + 2 + 2, none⟩ = some (.slice aa an ac) ∧ V.cell? ⟨bq, off + j * 9 + 2 + 3, none⟩ = some (.bool x.cl) ∧ V.cell? ⟨bq, off + j * 9 + 2 + 4, none⟩ = some (.string (bs x.tx)))
            (first | exact SB.out | exact SA.out)
            (first
              | (go_at_call 10; (with_reducible refine (HIN.out _ HKD.out).mono ?_); rintro e w4 ⟨rfl, h4⟩; have H4 := hid h4; have XD4 := HXB.out _ h4.below; have SA := hid (And.intro XD4.k1 (And.intro XD4.t0 (And.intro XD4.t1 (And.intro XD4.t2 (And.intro XD4.t3 XD4.t4))))); clear h4 XD4))
          have HK2 := hid H4.out
          have HC1 := hid fun V (hV : KW w2 V R s2) => kw_cur w2 R s2 HO2.out (by have := HO2.out.few; have := HB2.out.1; omega) V hV
          unfold eV at HC1
          rw [HCU.out] at HC1
          obtain ⟨pt, hpt⟩ : ∃ pt, Plc.pointN sq x.nm x.atts = pt := ⟨_, rfl⟩
          rw [hpt] at HC1
          have fl0 := open_field0 NI sq (bs x.nm) pt
          have fl2 := open_field2 NI sq (bs x.nm) pt
          obtain ⟨nm, hnm⟩ : ∃ nm, bs x.nm = nm := ⟨_, rfl⟩
          have HT1 := hid fun V (hV : KW w2 V R s2) => show V.cell? ⟨bq, off + j * 9 + 2 + 1, none⟩ = some (.string nm) from by rw [← hnm]; exact (HXB.out V hV.below).t1
          rw [hnm] at fl0 fl2 HC1
          have SA := hid (HT1.out _ HK2.out)
          have kd := HK2.out.later (Below.refl w4.heap.size w4).drew
          have k4 := HK2.out
          have SB := hid (HT1.out _ kd)
          clear HKD HIN k0 k1 t0 t1 t2 t3 t4 n7 y8 c4 ek hpt hnm H4
          go_wp2_with fail
          go_region_held3 (fun V => V.cell? ⟨bq, off + j * 9 + 2 + 1, none⟩ = some (.string nm))
            (first | exact SB.out | exact SA.out)
            (first
              | (go_at_call 27; (with_reducible refine (HC1.out _ (by assumption)).mono ?_); rintro e w5 ⟨rfl, h5⟩; have SA := hid (HT1.out _ h5)))
          have HK2 := hid h5
          clear SA SB kd k4 HC1 HT1 fl0 fl2 h5
          obtain ⟨g8, cap8, c1, hc1, hc2, c4, x0, x1, x2, x3, _, _⟩ := kw_reads HO2.out HK2.out
          have HZ := hid HK2.out
          have hN0 := HO2.out.pos
          have hNH := HO2.out.high.1
          have hHH := HHI.out
          obtain ⟨NO, hNO⟩ : ∃ NO, s2.op.length = NO := ⟨_, rfl⟩
          obtain ⟨HI2, hHI2⟩ : ∃ HI2, s2.hi = HI2 := ⟨_, rfl⟩
          rw [hNO] at c1 hc1 hN0 hNH
          rw [hHI2] at c4 hNH hHH
          have y1 : ((NO : Int) == 0) = false := by simp; omega
          have y1b : decide (NO = 0) = false := decide_eq_false (by omega)
          have y1c : ¬ (NO : Int) = 0 := by omega
          have y2 : decide ((HI2 : Int) < (hi : Int)) = false := decide_eq_false (by omega)
          have y2b : decide (HI2 < hi) = false := decide_eq_false (by omega)
          have y3 : decide ((HI2 : Int) < (NO : Int)) = false := decide_eq_false (by omega)
          have y3b : decide (HI2 < NO) = false := decide_eq_false (by omega)
          have y4 : (0 : Int) < (NO : Int) := by omega
          have HF2 := hid (bnd_fit HB2.out (by omega) (by omega))
          clear hNO hHI2 hN0 hNH hHH
          go_wp2_with fail
          go_quiet (fail)
          have HZ2 := hid (HZ.out.later (bel_drewN (Below.refl _ _) nq))
          clear c1 c4 x0 x1 x2 x3 y1 y1b y1c y2 y2b y3 y3b y4 HZ hc1 hc2
          go_wp2_with fail
          refine (kw_cur _ R _ HO2.out (by have := HO2.out.few; have := HB2.out.1; omega) _ HZ2.out).mono ?_
          unfold eV
          rintro e w8 ⟨rfl, h8⟩
          have HZ3 := hid h8
          clear h8 HZ2
          go_wp2_with fail
          refine (kw_where _ R _ HO2.out HF2.out (Plc.cur s2) _ HZ3.out).mono ?_
          rintro e w9 ⟨rfl, h9⟩
          obtain ⟨q1, q2⟩ := HO2.out.whereCur
          obtain ⟨P1, hP1⟩ : ∃ P1, (Plc.whereP s2 (Plc.cur s2)).1 = P1 := ⟨_, rfl⟩
          obtain ⟨P2, hP2⟩ : ∃ P2, (Plc.whereP s2 (Plc.cur s2)).2 = P2 := ⟨_, rfl⟩
          rw [hP1, hP2] at q2 ⊢
          rw [hP1] at q1
          have z1 : decide (P1 < 0) = false := decide_eq_false (by omega)
          have HZ4 := hid h9
          have HQ := hid q2
          clear h9 HZ3 hP1 hP2 q2
          by_cases hp : 0 ≤ P2
          · have z2 : decide (0 ≤ P2) = true := decide_eq_true hp
            obtain ⟨Rt9, c0, hPA⟩ := kw_parent _ R _ HO2.out HF2.out P2 _ HZ4.out
            rw [HQ.out hp] at hPA
            have HPA := hid hPA
            clear hPA HZ4 HQ
            go_wp2_with fail
            refine HPA.out.mono ?_
            rintro e w10 ⟨rfl, h10⟩
            have HZ5 := hid h10
            clear h10 c0 HPA
            go_wp2_with fail
            go_roundg (n - (j + 1))
            case measure => omega
            case rel => exact ⟨j + 1, _, by omega, by go_num, HZ5, HO2, HB2⟩
          · have z2 : decide (0 ≤ P2) = false := decide_eq_false hp
            clear HQ
            go_wp2_with fail
            go_roundg (n - (j + 1))
            case measure => omega
            case rel => exact ⟨j + 1, _, by omega, by go_num, HZ4, HO2, HB2⟩
        · rw [hq] at ek
          have HWR := hid (kw_wrx w2 R s x.tx HO.out (bnd_fit HB.out (by omega) (by omega)) HXS.out.1 wr HK.out)
          have HO2 := hid (HO.out.write x.tx)
          have HB2 : Hid (Bnd (Plc.write s x.tx).t (j + 1 + 1) (400 + 402 * (j + 1))) := hid ((bnd_wr HB.out (by omega) x.tx HXS.out.1).wide (Nat.le_refl _) (by omega))
          have HHI := hid (show hi ≤ (Plc.write s x.tx).hi from by rw [← HHi.out]; exact Nat.le_refl _)
          go_wp2_with fail
          refine HWR.out.mono ?_
          rintro e w4 ⟨⟨v4, rfl⟩, h4⟩
          have HK2 := hid h4
          clear h4 HWR HK k0 k1 t0 t1 t2 t3 t4 n7 y8 c4 ek
          obtain ⟨g8, cap8, c1, hc1, hc2, c4, x0, x1, x2, x3, _, _⟩ := kw_reads HO2.out HK2.out
          have HZ := hid HK2.out
          have hN0 := HO2.out.pos
          have hNH := HO2.out.high.1
          have hHH := HHI.out
          obtain ⟨NO, hNO⟩ : ∃ NO, (Plc.write s x.tx).op.length = NO := ⟨_, rfl⟩
          obtain ⟨HI2, hHI2⟩ : ∃ HI2, (Plc.write s x.tx).hi = HI2 := ⟨_, rfl⟩
          rw [hNO] at c1 hc1 hN0 hNH
          rw [hHI2] at c4 hNH hHH
          have y1 : ((NO : Int) == 0) = false := by simp; omega
          have y1b : decide (NO = 0) = false := decide_eq_false (by omega)
          have y1c : ¬ (NO : Int) = 0 := by omega
          have y2 : decide ((HI2 : Int) < (hi : Int)) = false := decide_eq_false (by omega)
          have y2b : decide (HI2 < hi) = false := decide_eq_false (by omega)
          have y3 : decide ((HI2 : Int) < (NO : Int)) = false := decide_eq_false (by omega)
          have y3b : decide (HI2 < NO) = false := decide_eq_false (by omega)
          have y4 : (0 : Int) < (NO : Int) := by omega
          have HF2 := hid (bnd_fit HB2.out (by omega) (by omega))
          clear hNO hHI2 hN0 hNH hHH
          go_wp2_with fail
          go_quiet (fail)
          have HZ2 := hid (HZ.out.later (bel_drewN (Below.refl _ _) nq))
          clear c1 c4 x0 x1 x2 x3 y1 y1b y1c y2 y2b y3 y3b y4 HZ hc1 hc2
          go_wp2_with fail
          refine (kw_cur _ R _ HO2.out (by have := HO2.out.few; have := HB2.out.1; omega) _ HZ2.out).mono ?_
          unfold eV
          rintro e w8 ⟨rfl, h8⟩
          have HZ3 := hid h8
          clear h8 HZ2
          go_wp2_with fail
          refine (kw_where _ R _ HO2.out HF2.out (Plc.cur (Plc.write s x.tx)) _ HZ3.out).mono ?_
          rintro e w9 ⟨rfl, h9⟩
          obtain ⟨q1, q2⟩ := HO2.out.whereCur
          obtain ⟨P1, hP1⟩ : ∃ P1, (Plc.whereP (Plc.write s x.tx) (Plc.cur (Plc.write s x.tx))).1 = P1 := ⟨_, rfl⟩
          obtain ⟨P2, hP2⟩ : ∃ P2, (Plc.whereP (Plc.write s x.tx) (Plc.cur (Plc.write s x.tx))).2 = P2 := ⟨_, rfl⟩
          rw [hP1, hP2] at q2 ⊢
          rw [hP1] at q1
          have z1 : decide (P1 < 0) = false := decide_eq_false (by omega)
          have HZ4 := hid h9
          have HQ := hid q2
          clear h9 HZ3 hP1 hP2 q2
          by_cases hp : 0 ≤ P2
          · have z2 : decide (0 ≤ P2) = true := decide_eq_true hp
            obtain ⟨Rt9, c0, hPA⟩ := kw_parent _ R _ HO2.out HF2.out P2 _ HZ4.out
            rw [HQ.out hp] at hPA
            have HPA := hid hPA
            clear hPA HZ4 HQ
            go_wp2_with fail
            refine HPA.out.mono ?_
            rintro e w10 ⟨rfl, h10⟩
            have HZ5 := hid h10
            clear h10 c0 HPA
            go_wp2_with fail
            go_roundg (n - (j + 1))
            case measure => omega
            case rel => exact ⟨j + 1, _, by omega, by go_num, HZ5, HO2, HB2⟩
          · have z2 : decide (0 ≤ P2) = false := decide_eq_false hp
            clear HQ
            go_wp2_with fail
            go_roundg (n - (j + 1))
            case measure => omega
            case rel => exact ⟨j + 1, _, by omega, by go_num, HZ4, HO2, HB2⟩
        · rw [hq] at ek
          have HCL := hid (kw_close w2 R s HO.out (by have := HO.out.few; have := HB.out.1; omega) x.n wr HK.out)
          go_wp2_with fail
          refine HCL.out.mono ?_
          rintro e w4 ⟨⟨v4, rfl⟩, h4⟩
          have y8 := (HXB.out _ h4.below).y8
          obtain ⟨_, _, _, _, _, _, _, _, _, _, f3, c3⟩ := kw_reads (HO.out.close x.n) h4
          obtain ⟨yq, hyq⟩ : ∃ yq, x.yes = yq := ⟨_, rfl⟩
          rw [hyq] at y8
          have HK2 := hid (kw_fo h4 yq)
          have HO2 := hid ((HO.out.close x.n).foster yq)
          have HB2 : Hid (Bnd ({ Plc.close s x.n with fo := yq } : Plc.St).t (j + 1 + 1) (400 + 402 * (j + 1))) := hid (show Bnd (Plc.close s x.n).t _ _ from by rw [close_t]; exact HB.out.wide (by omega) (by omega))
          have HHI := hid (show hi ≤ ({ Plc.close s x.n with fo := yq } : Plc.St).hi from by rw [← HHi.out]; exact Nat.le_of_eq (Plc.hi_close s x.n).symm)
          clear h4 HCL HK k0 k1 t0 t1 t2 t3 t4 n7 c4 ek hyq
          generalize ({ Plc.close s x.n with fo := yq } : Plc.St) = s2 at *
          go_wp2_with fail
          clear f3 c3 y8
          obtain ⟨g8, cap8, c1, hc1, hc2, c4, x0, x1, x2, x3, _, _⟩ := kw_reads HO2.out HK2.out
          have HZ := hid HK2.out
          have hN0 := HO2.out.pos
          have hNH := HO2.out.high.1
          have hHH := HHI.out
          obtain ⟨NO, hNO⟩ : ∃ NO, s2.op.length = NO := ⟨_, rfl⟩
          obtain ⟨HI2, hHI2⟩ : ∃ HI2, s2.hi = HI2 := ⟨_, rfl⟩
          rw [hNO] at c1 hc1 hN0 hNH
          rw [hHI2] at c4 hNH hHH
          have y1 : ((NO : Int) == 0) = false := by simp; omega
          have y1b : decide (NO = 0) = false := decide_eq_false (by omega)
          have y1c : ¬ (NO : Int) = 0 := by omega
          have y2 : decide ((HI2 : Int) < (hi : Int)) = false := decide_eq_false (by omega)
          have y2b : decide (HI2 < hi) = false := decide_eq_false (by omega)
          have y3 : decide ((HI2 : Int) < (NO : Int)) = false := decide_eq_false (by omega)
          have y3b : decide (HI2 < NO) = false := decide_eq_false (by omega)
          have y4 : (0 : Int) < (NO : Int) := by omega
          have HF2 := hid (bnd_fit HB2.out (by omega) (by omega))
          clear hNO hHI2 hN0 hNH hHH
          go_wp2_with fail
          go_quiet (fail)
          have HZ2 := hid (HZ.out.later (bel_drewN (Below.refl _ _) nq))
          clear c1 c4 x0 x1 x2 x3 y1 y1b y1c y2 y2b y3 y3b y4 HZ hc1 hc2
          go_wp2_with fail
          refine (kw_cur _ R _ HO2.out (by have := HO2.out.few; have := HB2.out.1; omega) _ HZ2.out).mono ?_
          unfold eV
          rintro e w8 ⟨rfl, h8⟩
          have HZ3 := hid h8
          clear h8 HZ2
          go_wp2_with fail
          refine (kw_where _ R _ HO2.out HF2.out (Plc.cur s2) _ HZ3.out).mono ?_
          rintro e w9 ⟨rfl, h9⟩
          obtain ⟨q1, q2⟩ := HO2.out.whereCur
          obtain ⟨P1, hP1⟩ : ∃ P1, (Plc.whereP s2 (Plc.cur s2)).1 = P1 := ⟨_, rfl⟩
          obtain ⟨P2, hP2⟩ : ∃ P2, (Plc.whereP s2 (Plc.cur s2)).2 = P2 := ⟨_, rfl⟩
          rw [hP1, hP2] at q2 ⊢
          rw [hP1] at q1
          have z1 : decide (P1 < 0) = false := decide_eq_false (by omega)
          have HZ4 := hid h9
          have HQ := hid q2
          clear h9 HZ3 hP1 hP2 q2
          by_cases hp : 0 ≤ P2
          · have z2 : decide (0 ≤ P2) = true := decide_eq_true hp
            obtain ⟨Rt9, c0, hPA⟩ := kw_parent _ R _ HO2.out HF2.out P2 _ HZ4.out
            rw [HQ.out hp] at hPA
            have HPA := hid hPA
            clear hPA HZ4 HQ
            go_wp2_with fail
            refine HPA.out.mono ?_
            rintro e w10 ⟨rfl, h10⟩
            have HZ5 := hid h10
            clear h10 c0 HPA
            go_wp2_with fail
            go_roundg (n - (j + 1))
            case measure => omega
            case rel => exact ⟨j + 1, _, by omega, by go_num, HZ5, HO2, HB2⟩
          · have z2 : decide (0 ≤ P2) = false := decide_eq_false hp
            clear HQ
            go_wp2_with fail
            go_roundg (n - (j + 1))
            case measure => omega
            case rel => exact ⟨j + 1, _, by omega, by go_num, HZ4, HO2, HB2⟩
      · have d1 : decide (j < n) = false := decide_eq_false hlt
        have hltI : ¬ (j : Int) < (n : Int) := by omega
        have HB5 := hid (B2.out.trans (HK.out.below.mono B2.out.size))
        clear HK HO HB
        go_wp2_with fail
        go_ret
        exact ⟨rfl, HB5.out⟩
end Go.Proofs.Ytlgmjnnfndedbaa
