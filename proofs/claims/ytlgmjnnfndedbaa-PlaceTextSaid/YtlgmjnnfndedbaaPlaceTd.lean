/- Walks over package tympanlaw13: PlaceText. Written by tools/gen_ptext.py. -/
import Derived.Test.YtlgmjnnfndedbaaPlaceHd
import Derived.Test.YtlgmjnnfndedbaaPlaceTt
namespace Go.Proofs.Ytlgmjnnfndedbaa
open Go.RowKit Go.Lib
set_option maxRecDepth 100000
set_option linter.unusedVariables false
/-- What is so behind j rounds. -/
structure TJ (j : Nat) (s : Plc.St) (want : List UInt8) : Prop where
  ti : Plc.TI s want
  bnd : Bnd s.t (2 * j + 1) (400 + 402 * j)
  len : want.length ≤ 3207 * j
theorem TJ.fit {j : Nat} {s : Plc.St} {want : List UInt8} (h : TJ j s want) (hj : j ≤ 100) : Fit s.t := bnd_fit h.bnd (by omega) (by omega)
theorem kw_wholeT {w W : World} {R : Nat} {s : Plc.St} (hG : Dom.Good s.t) (hF : Fit s.t) (h : KW w W R s) : ∃ Rt D, W.cell? ⟨R, 0, none⟩ = some (.pointer (some ⟨Rt, 0, none⟩)) ∧ ∀ d, D < d →
    Calls Try.prog 26 #[.pointer (some ⟨Rt, 0, none⟩), .int .i64 0] W fun e W' => (∃ a n c, e = .returned (.slice a n c) ∧ IsN (fun k => W.heap.size ≤ k ∧ k < W'.heap.size) d W' a n (Dom.wholeF d s.t 0)) ∧ Below W.heap.size W W' := by
  obtain ⟨S, Rt, ov, mv, rs, St, h1, h2⟩ := h
  obtain ⟨D, hD⟩ := domM_all.whole s.t hG hF
  refine ⟨Rt, D, h1.cells.1, fun d hd => (hD d hd W w.heap.size Rt St True.intro h1.tree).mono ?_⟩
  rintro e W' ⟨⟨a, n, c, rfl, hI, _, _⟩, hb⟩
  exact ⟨⟨a, n, c, rfl, hI.isN⟩, hb⟩
set_option maxHeartbeats 64000000 in
theorem ptext13_any (a : Option Addr) (n c : Nat) (os : List POp) (w : World) (h : IsPops w a n os) (hf : ∀ x ∈ os, popFits x) (hz : ∀ x ∈ os, x.Sized) (hn : n ≤ 281474976710656) :
    Calls Try.prog 4 #[.slice a n c] w fun e w' => e = .returned (.bool true) ∧ Below w.heap.size w w' := by
  have HHV := hid (pheavy_any a n c os w h hz hn)
  have HH := hid h
  have HF := hid hf
  clear h hz hf
  go_enter Try.func4, Try.ntmps4
  go_wp2_with fail
  refine HHV.out.mono ?_
  rintro e w1 ⟨⟨b, rfl, hb⟩, b1⟩
  have B1 := hid b1
  have HS := hid hb
  clear b1 HHV hb
  cases b with
  | true =>
    go_wp2_with fail
    refine (pknown13_any _).mono ?_
    rintro e w2 ⟨rfl, b2⟩
    have B2 := hid (B1.out.trans (b2.mono B1.out.size))
    clear b2
    go_wp2_with fail
    go_ret
    exact ⟨rfl, B2.out⟩
  | false =>
    obtain ⟨hn100, hsm⟩ := HS.out rfl
    have HSM := hid hsm
    clear hsm HS
    go_wp2_with fail
    refine (pknown13_any _).mono ?_
    rintro e w2 ⟨rfl, b2⟩
    have B2 := hid (B1.out.trans (b2.mono B1.out.size))
    clear b2 B1
    go_wp2_with fail
    refine (kw_new w2).mono ?_
    rintro e w3 ⟨R, rfl, h3⟩
    have H3 := hid h3
    clear h3
    go_wp2_with fail
    go_loopg [4, 5] n (fun gk wv iv wr => ∃ (j : Nat) (s : Plc.St) (want : List UInt8), j + gk = n ∧ wv = .string (bs want) ∧ iv = .int .i64 j ∧ Hid (KW w2 wr R s) ∧ Hid (TJ j s want))
    case atStart => exact ⟨0, Plc.new, [], by omega, rfl, rfl, H3, hid ⟨Plc.ti_new, bnd_new.wide (by omega) (by omega), Nat.zero_le _⟩⟩
    case round =>
      clear H3
      obtain ⟨j, s, want, hj, rfl, rfl, HK, HT⟩ := hrel
      by_cases hlt : j < n
      · have d1 : decide (j < n) = true := decide_eq_true hlt
        have hltI : (j : Int) < (n : Int) := by omega
        obtain ⟨x, hx⟩ : ∃ x, os[j]? = some x := ⟨_, List.getElem?_eq_getElem (by have := HH.out.1; omega)⟩
        have hxm := List.mem_of_getElem? hx
        obtain ⟨bq, off, rfl, hat⟩ := HH.out.2.resolve_left (by omega)
        obtain ⟨aa, an, ac, X⟩ := hat j x hx
        have HXS := hid (HSM.out x hxm)
        have HXB := hid fun V (hV : Below w2.heap.size w2 V) => X.below (B2.out.trans (hV.mono B2.out.size))
        have k0 := (HXB.out wr HK.out.below).k0
        have ek : ((x.kind : Nat) : Int).tmod 2 = ((x.kind % 2 : Nat) : Int) := by rw [Int.tmod_eq_emod_of_nonneg (by omega)]; omega
        clear X hat hx hxm
        have hq : x.kind % 2 = 0 ∨ x.kind % 2 = 1 := by omega
        rcases hq with hq | hq
        · rw [hq] at ek
          have HIN := hid (show Calls Try.prog 10 #[.pointer (some ⟨R, 0, none⟩), .int .u8 0, .agg #[.int .u8 0, .string ⟨#[120]⟩, .slice none 0 0, .bool false, .string ⟨#[]⟩]] wr (fun e W' => (∃ v, e = .returned v) ∧ KW w2 W' R (Plc.ins s 0 [120] [])) from
            kw_ins w2 R s _ [120] HT.out.ti.ok (bnd_fit HT.out.bnd (by omega) (by omega)) (bnd_fit (bnd_make HT.out.bnd (Plc.elemN 0 [120] []) (by show (1 + 0 / 8 + 1 / 8) + 0 ≤ _; omega)) (by omega) (by omega)) (by decide) (by decide) rfl wr HK.out)
          have HT1 := hid (HT.out.ti.ins [120])
          have HB1 := hid (bnd_ins HT.out.bnd 0 [120] [] (by show (1 + 0 / 8 + 1 / 8) + 0 ≤ _; omega))
          have HL := hid HT.out.len
          go_wp2_with fail
          refine HIN.out.mono ?_
          rintro e w4 ⟨⟨v4, rfl⟩, h4⟩
          have HK1 := hid h4
          clear h4 HIN k0 ek HK HT
          generalize Plc.ins s 0 [120] [] = s1 at *
          have XB := HXB.out _ HK1.out.below
          have t4 := XB.t4
          have HF1 := hid (bnd_fit HB1.out (by omega) (by omega))
          have HWR := hid (kw_wrx w2 R s1 x.tx HT1.out.ok HF1.out HXS.out.1 _ HK1.out)
          have HT2 := hid (HT1.out.write x.tx)
          have HB2 := hid ((bnd_wr HB1.out (by omega) x.tx HXS.out.1).wide (show 2 * j + 1 + 1 + 1 ≤ 2 * (j + 1) + 1 by omega) (show 400 + 402 * j + 402 ≤ 400 + 402 * (j + 1) by omega))
          have hop2 : (Plc.write s1 x.tx).op.length = s1.op.length := rfl
          have m1 : ¬ 9223372036854775807 < (bs want).size + (bs x.tx).size := by
            show ¬ 9223372036854775807 < want.length + x.tx.length
            have := HL.out
            have := HXS.out.1
            omega
          have hc1 := tt_cat want x.tx
          have HL2 := hid (show (want ++ x.tx).length ≤ 3207 * (j + 1) from by
            rw [List.length_append]
            have := HL.out
            have := HXS.out.1
            omega)
          clear XB
          go_wp2_with fail
          refine HWR.out.mono ?_
          rintro e w5 ⟨⟨v5, rfl⟩, h5⟩
          have X5 := HXB.out _ h5.below
          have t4 := X5.t4
          have y8 := X5.y8
          obtain ⟨g8, cap8, c1, hcp1, hcp2, _, _, _, _, _, _, _⟩ := kw_reads HT2.out.ok h5
          have hNp := HT2.out.ok.pos
          have hNf := HT2.out.ok.few
          have hNb := HB2.out.1
          have HK5 := hid h5
          clear h5 HWR X5 HK1 hop2
          generalize Plc.write s1 x.tx = s2 at *
          obtain ⟨NO, hNO⟩ : ∃ NO, s2.op.length = NO := ⟨_, rfl⟩
          have HTC := hid HT2.out.close1
          have HCL := hid fun (V : World) (hV : KW w2 V R s2) => kw_close w2 R s2 HT2.out.ok (by omega) ((s2.op.length : Int) - 1) V hV
          rw [hNO] at c1 hcp1 HTC HCL
          have hw1 : IntKind.i64.wrap ((NO : Int) - 1) = (NO : Int) - 1 := IntWalk.i64_in _ (by omega)
          have HBC := hid (show Bnd (Plc.close s2 ((NO : Int) - 1)).t (2 * (j + 1) + 1) (400 + 402 * (j + 1)) from by rw [close_t]; exact HB2.out)
          obtain ⟨WT, hWT⟩ : ∃ WT, bs x.tx = WT := ⟨_, rfl⟩
          rw [hWT] at t4 m1 hc1
          cases hy : x.yes with
          | true =>
            rw [hy] at y8
            clear hy hNp hNf hNb hNO hWT
            go_wp2_with fail
            refine (HCL.out _ HK5.out).mono ?_
            rintro e w6 ⟨⟨v6, rfl⟩, h6⟩
            have HK6 := hid h6
            clear h6 HCL HK5 t4 y8 c1
            go_wp2_with fail
            go_roundg (n - (j + 1))
            case measure => omega
            case rel => exact ⟨j + 1, _, want ++ x.tx, by omega, by first | rfl | rw [hc1], by go_num, HK6, hid ⟨HTC.out, HBC.out, HL2.out⟩⟩
          | false =>
            rw [hy] at y8
            clear hy hNp hNf hNb hNO hWT
            go_wp2_with fail
            go_roundg (n - (j + 1))
            case measure => omega
            case rel => exact ⟨j + 1, _, want ++ x.tx, by omega, by first | rfl | rw [hc1], by go_num, HK5, hid ⟨HT2.out, HB2.out, HL2.out⟩⟩
        · rw [hq] at ek
          have HT1 := hid HT.out.ti
          have HB1 := hid (HT.out.bnd.wide (show 2 * j + 1 ≤ 2 * j + 1 + 1 by omega) (Nat.le_refl _))
          have HL := hid HT.out.len
          have HK1 := hid HK.out
          clear HK HT
          have XB := HXB.out _ HK1.out.below
          have t4 := XB.t4
          have HF1 := hid (bnd_fit HB1.out (by omega) (by omega))
          have HWR := hid (kw_wrx w2 R s x.tx HT1.out.ok HF1.out HXS.out.1 _ HK1.out)
          have HT2 := hid (HT1.out.write x.tx)
          have HB2 := hid ((bnd_wr HB1.out (by omega) x.tx HXS.out.1).wide (show 2 * j + 1 + 1 + 1 ≤ 2 * (j + 1) + 1 by omega) (show 400 + 402 * j + 402 ≤ 400 + 402 * (j + 1) by omega))
          have hop2 : (Plc.write s x.tx).op.length = s.op.length := rfl
          have m1 : ¬ 9223372036854775807 < (bs want).size + (bs x.tx).size := by
            show ¬ 9223372036854775807 < want.length + x.tx.length
            have := HL.out
            have := HXS.out.1
            omega
          have hc1 := tt_cat want x.tx
          have HL2 := hid (show (want ++ x.tx).length ≤ 3207 * (j + 1) from by
            rw [List.length_append]
            have := HL.out
            have := HXS.out.1
            omega)
          clear XB
          go_wp2_with fail
          refine HWR.out.mono ?_
          rintro e w5 ⟨⟨v5, rfl⟩, h5⟩
          have X5 := HXB.out _ h5.below
          have t4 := X5.t4
          have y8 := X5.y8
          obtain ⟨g8, cap8, c1, hcp1, hcp2, _, _, _, _, _, _, _⟩ := kw_reads HT2.out.ok h5
          have hNp := HT2.out.ok.pos
          have hNf := HT2.out.ok.few
          have hNb := HB2.out.1
          have HK5 := hid h5
          clear h5 HWR X5 HK1 hop2
          generalize Plc.write s x.tx = s2 at *
          obtain ⟨NO, hNO⟩ : ∃ NO, s2.op.length = NO := ⟨_, rfl⟩
          have HTC := hid HT2.out.close1
          have HCL := hid fun (V : World) (hV : KW w2 V R s2) => kw_close w2 R s2 HT2.out.ok (by omega) ((s2.op.length : Int) - 1) V hV
          rw [hNO] at c1 hcp1 HTC HCL
          have hw1 : IntKind.i64.wrap ((NO : Int) - 1) = (NO : Int) - 1 := IntWalk.i64_in _ (by omega)
          have HBC := hid (show Bnd (Plc.close s2 ((NO : Int) - 1)).t (2 * (j + 1) + 1) (400 + 402 * (j + 1)) from by rw [close_t]; exact HB2.out)
          obtain ⟨WT, hWT⟩ : ∃ WT, bs x.tx = WT := ⟨_, rfl⟩
          rw [hWT] at t4 m1 hc1
          cases hy : x.yes with
          | true =>
            rw [hy] at y8
            clear hy hNp hNf hNb hNO hWT
            go_wp2_with fail
            refine (HCL.out _ HK5.out).mono ?_
            rintro e w6 ⟨⟨v6, rfl⟩, h6⟩
            have HK6 := hid h6
            clear h6 HCL HK5 t4 y8 c1
            go_wp2_with fail
            go_roundg (n - (j + 1))
            case measure => omega
            case rel => exact ⟨j + 1, _, want ++ x.tx, by omega, by first | rfl | rw [hc1], by go_num, HK6, hid ⟨HTC.out, HBC.out, HL2.out⟩⟩
          | false =>
            rw [hy] at y8
            clear hy hNp hNf hNb hNO hWT
            go_wp2_with fail
            go_roundg (n - (j + 1))
            case measure => omega
            case rel => exact ⟨j + 1, _, want ++ x.tx, by omega, by first | rfl | rw [hc1], by go_num, HK5, hid ⟨HT2.out, HB2.out, HL2.out⟩⟩
      · have d1 : decide (j < n) = false := decide_eq_false hlt
        have hltI : ¬ (j : Int) < (n : Int) := by omega
        obtain rfl : j = n := by omega
        have hfit := HT.out.fit (by omega)
        obtain ⟨Rt, D, c0, hW⟩ := kw_wholeT HT.out.ti.ok.good hfit HK.out
        have HW := hid (hW (D + 400) (by omega))
        have HSW := hid (hfit.whole HT.out.ti.ok.good (D + 400) (D + 400) 0)
        have HTX := hid (show txtF (D + 400) (Dom.wholeF (D + 400) s.t 0) = want from by rw [txt_whole]; exact HT.out.ti.txt _ (by have := HT.out.bnd.1; omega) (by omega))
        have HB5 := hid (B2.out.trans (HK.out.below.mono B2.out.size))
        clear HK HT hW hfit
        go_wp2_with fail
        refine HW.out.mono ?_
        rintro e w5 ⟨⟨a5, n5, c5, rfl, hI⟩, b5⟩
        have HTT := hid (txtG_any (D + 400) _ _ a5 n5 c5 w5 hI HSW.out)
        rw [HTX.out] at HTT
        have HB6 := hid (HB5.out.trans (b5.mono HB5.out.size))
        clear hI b5 c0 HW
        generalize bs want = WN at *
        go_wp2_with fail
        refine HTT.out.mono ?_
        rintro e w6 ⟨rfl, b6⟩
        have HB7 := hid (HB6.out.trans (b6.mono HB6.out.size))
        clear b6 HTT
        go_wp2_with fail
        go_ret
        exact ⟨by first | rfl | simp, HB7.out⟩
end Go.Proofs.Ytlgmjnnfndedbaa
