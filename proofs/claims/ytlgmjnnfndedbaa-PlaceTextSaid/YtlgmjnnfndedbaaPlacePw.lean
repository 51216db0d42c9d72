/- Walks over the program's layer 13: Where. -/
import Derived.Test.YtlgmjnnfndedbaaPlacePa
import Derived.Test.YtlgmjnnfndedbaaRefWhole
namespace Go.Proofs.Ytlgmjnnfndedbaa
open Go.RowKit Go.Lib
set_option maxRecDepth 100000
set_option linter.unusedVariables false
/-- No table is the first one that is open. -/
theorem untilI_pos {s : Plc.St} (hO : Plc.Ok s) {k : Nat} (hk : Opn.untilI s.op [Plc.tblN] s.op.length = (k : Int)) : 0 < k := by
  rw [Opn.until_last] at hk
  rcases Opn.lastI_is (fun x => Opn.oneB x [Plc.tblN]) s.op s.op.length with e | ⟨j, x, e, hj, hx, hb⟩
  · rw [e] at hk; omega
  · have hjk : j = k := by omega
    subst hjk
    by_cases h0 : j = 0
    · subst h0
      rw [hO.root] at hx
      cases hx
      exact absurd hb (by decide)
    · omega
set_option maxHeartbeats 4000000 in
theorem pwhere_no (w0 w : World) (R Rt : Nat) (S St : Nat → Prop) (s : Plc.St) (ov mv : Value) (rs : List MR) (h : WorldP DomK 48 w0 w R S s Rt ov mv rs St) (id : Int) (sp pt : Nat) (nm : List UInt8)
    (hno : s.fo = false ∨ (s.fo = true ∧ holdsB sp nm = false)) :
    Calls Try.prog 28 #[.pointer (some ⟨R, 0, none⟩), .agg #[.int .i64 id, .int .u8 sp, .string (bs nm), .int .u8 pt]] w fun e w' => e = .returned (pairV (id, -1)) ∧ Below w.heap.size w w' := by
  obtain ⟨c0, c1, c2, c3, c4⟩ := h.cells
  have b0 : Below w.heap.size w (w.alloc (.cells #[.int .i64 id, .int .u8 sp, .string (bs nm), .int .u8 pt] 36)) := (Below.refl _ w).alloc (Nat.le_refl _) _
  have HB0 := hid b0
  have d3 := cell_up c3 b0
  have HH := hid (pholds_any id sp pt nm (w.alloc (.cells #[.int .i64 id, .int .u8 sp, .string (bs nm), .int .u8 pt] 36)))
  have HC := hid (show (w.alloc (.cells #[.int .i64 id, .int .u8 sp, .string (bs nm), .int .u8 pt] 36)).cell? ⟨w.heap.size, 0, none⟩ = some (.int .i64 id) from (BlkW.new w #[.int .i64 id, .int .u8 sp, .string (bs nm), .int .u8 pt] 36).cell 0)
  clear h c0 c1 c2 c3 c4 b0
  generalize bs nm = X at *
  rcases hno with hf | ⟨hf, hq⟩
  · rw [hf] at d3
    clear HH
    go_enter Try.func28, Try.ntmps28
    go_wp2_with fail
    go_returns
    exact ⟨rfl, HB0.out⟩
  · rw [hf] at d3
    rw [hq] at HH
    go_enter Try.func28, Try.ntmps28
    go_wp2_with fail
    refine HH.out.mono ?_
    rintro e w2 ⟨rfl, b2⟩
    have z0 := cell_up HC.out b2
    have HB2 := hid (HB0.out.trans (b2.mono HB0.out.size))
    clear HH d3 b2 hf
    go_wp2_with fail
    go_returns
    exact ⟨rfl, HB2.out⟩
set_option maxHeartbeats 8000000 in
theorem pwhere_yes (w0 w : World) (R Rt : Nat) (S St : Nat → Prop) (s : Plc.St) (ov mv : Value) (rs : List MR) (h : WorldP DomK 48 w0 w R S s Rt ov mv rs St) (hO : Plc.Ok s) (hF : Fit s.t) (id : Int) (sp pt : Nat) (nm : List UInt8)
    (hfo : s.fo = true) (hyes : holdsB sp nm = true) :
    Calls Try.prog 28 #[.pointer (some ⟨R, 0, none⟩), .agg #[.int .i64 id, .int .u8 sp, .string (bs nm), .int .u8 pt]] w fun e w' => e = .returned (pairV (Plc.tableP s)) ∧ Below w.heap.size w w' := by
  obtain ⟨g, cap, rfl, hc1, hc2, hE⟩ := h.view hO
  obtain ⟨c0, c1, c2, c3, c4⟩ := h.cells
  rw [hfo] at c3
  have hop := hO.few
  have hfew := hF.few
  have HPA := hid fun (i : Int) (V : World) (hV : Below w.heap.size w V) => domM_all.parent V w0.heap.size Rt St s.t i True.intro (dpc_dom.below h.tree hV) hO.good hF
  have HEI := hid (show ElemsIn (some ⟨g, 0, none⟩) s.op.length cap s.op w from ⟨hE, by omega, hc1, hc2, fun x hx => (hO.fit x hx).1⟩)
  have HE := hid hE
  have HOK := hid hO
  have HCS := hid (And.intro c0 c1)
  obtain ⟨N, hN⟩ : ∃ N, s.op.length = N := ⟨_, rfl⟩
  have HN := hid hN
  rw [hN] at HE HCS hc1 c1 hop HEI
  obtain ⟨K, hK⟩ : ∃ K, Opn.untilI s.op [Plc.tblN] N = K := ⟨_, rfl⟩
  have HK := hid hK
  have hKr := untilI_lt s.op [Plc.tblN] N
  rw [hK] at hKr
  have HPOS := hid fun (k : Nat) (e : K = k) => untilI_pos hO (k := k) (by rw [hN, hK]; exact e)
  have HT := hid (show Plc.tableP s = (if K < 0 then ((0 : Int), (-1 : Int)) else if 0 ≤ Dom.parentT s.t (Plc.opAt s K.toNat).id then (Dom.parentT s.t (Plc.opAt s K.toNat).id, (Plc.opAt s K.toNat).id) else ((Plc.opAt s (K.toNat - 1)).id, -1)) by
    unfold Plc.tableP
    rw [hN, hK])
  have b0 : Below w.heap.size w (w.alloc (.cells #[.int .i64 id, .int .u8 sp, .string (bs nm), .int .u8 pt] 36)) := (Below.refl _ w).alloc (Nat.le_refl _) _
  have HB0 := hid b0
  have d3 := cell_up c3 b0
  have HH := hid (pholds_any id sp pt nm (w.alloc (.cells #[.int .i64 id, .int .u8 sp, .string (bs nm), .int .u8 pt] 36)))
  rw [hyes] at HH
  clear h hO hE c0 c1 c2 c3 c4 hN hK hfo b0 hyes hF
  generalize bs nm = X at *
  go_enter Try.func28, Try.ntmps28
  go_wp2_with fail
  refine HH.out.mono ?_
  rintro e w1 ⟨rfl, bq⟩
  have HB1 := hid (HB0.out.trans (bq.mono HB0.out.size))
  have d1 := cell_up HCS.out.2 HB1.out
  clear HH d3 bq
  go_wp2_with fail
  have hna := names_lit w1 (ns := [Plc.tblN]) (n := 1) (C := #[.string ⟨#[116, 97, 98, 108, 101]⟩]) rfl rfl (by omega)
  have b1 := HB1.out.alloc HB1.out.size (.cells #[.string ⟨#[116, 97, 98, 108, 101]⟩] 9)
  refine (puntil_any (some ⟨g, 0, none⟩) N cap s.op _ 1 1 [Plc.tblN] _ (HEI.out.below b1) hna).mono ?_
  rintro e w2 ⟨rfl, bx⟩
  rw [HK.out]
  have HB2 := hid (b1.trans (bx.mono b1.size))
  clear hna b1 bx d1
  by_cases hk : K < 0
  · have k1 : decide (K < 0) = true := decide_eq_true hk
    have HR := hid (show Plc.tableP s = (0, -1) by rw [HT.out, if_pos hk])
    clear HT hk HPOS
    go_wp2_with fail
    go_returns
    exact ⟨by rw [HR.out]; rfl, HB2.out⟩
  · have k1 : decide (K < 0) = false := decide_eq_false hk
    obtain ⟨k, rfl⟩ : ∃ k : Nat, K = k := ⟨K.toNat, by omega⟩
    have hkp := HPOS.out k rfl
    obtain ⟨m, rfl⟩ : ∃ m, k = m + 1 := ⟨k - 1, by omega⟩
    have hkN : m + 1 < N := by omega
    have hkI : ((m + 1 : Nat) : Int) < (N : Int) := by omega
    have hk0 : (0 : Int) ≤ ((m + 1 : Nat) : Int) := by omega
    have HT2 := hid (show Plc.tableP s = (if 0 ≤ Dom.parentT s.t (Plc.opAt s (m + 1)).id then (Dom.parentT s.t (Plc.opAt s (m + 1)).id, (Plc.opAt s (m + 1)).id) else ((Plc.opAt s m).id, -1)) by
      rw [HT.out, if_neg hk]
      rfl)
    obtain ⟨hx, _⟩ := HOK.out.at_ (show m + 1 < s.op.length by rw [HN.out]; exact hkN)
    obtain ⟨x0, _, _, _⟩ := isE_at0 HE.out hx
    obtain ⟨hy, _⟩ := HOK.out.at_ (show m < s.op.length by rw [HN.out]; omega)
    obtain ⟨y0, _, _, _⟩ := isE_at0 HE.out hy
    generalize (Plc.opAt s (m + 1)).id = xi at *
    generalize (Plc.opAt s m).id = yi at *
    have HPX := hid (HPA.out xi)
    obtain ⟨p, hp⟩ : ∃ p, Dom.parentT s.t xi = p := ⟨_, rfl⟩
    rw [hp] at HPX HT2
    have HX := hid fun V (hV : Below w.heap.size w V) => And.intro (cell_up HCS.out.1 hV) (And.intro (cell_up HCS.out.2 hV) (And.intro (cell_up x0 hV) (cell_up y0 hV)))
    obtain ⟨e0, e1, e2, e3⟩ := HX.out w2 HB2.out
    clear HT hk hx hy x0 y0 hp HPA HPOS hkp
    go_wp2_with fail
    refine (HPX.out _ HB2.out).mono ?_
    rintro e w3 ⟨rfl, b3⟩
    have HB3 := hid (HB2.out.trans (b3.mono HB2.out.size))
    clear e0 e1 e2 e3 HPX b3
    obtain ⟨e0, e1, e2, e3⟩ := HX.out _ HB3.out
    by_cases h0 : 0 ≤ p
    · have p1 : decide ((0 : Int) ≤ p) = true := decide_eq_true h0
      have HR := hid (show Plc.tableP s = (p, xi) by rw [HT2.out, if_pos h0])
      clear HT2 h0 e0 e1 e2 e3
      go_wp2_with fail
      go_returns
      exact ⟨by rw [HR.out]; rfl, HB3.out⟩
    · have p1 : decide ((0 : Int) ≤ p) = false := decide_eq_false h0
      have HR := hid (show Plc.tableP s = (yi, -1) by rw [HT2.out, if_neg h0])
      have hm1 : ((m + 1 : Nat) : Int) - 1 = (m : Int) := by omega
      have hm2 : (m : Int) < (N : Int) := by omega
      have hm3 : (0 : Int) ≤ (m : Int) := by omega
      have hm4 : m < N := by omega
      clear HT2 h0 e0 e2
      go_wp2_with fail
      go_returns
      exact ⟨by rw [HR.out]; rfl, HB3.out⟩
theorem pwhere_any (w0 w : World) (R Rt : Nat) (S St : Nat → Prop) (s : Plc.St) (ov mv : Value) (rs : List MR) (h : WorldP DomK 48 w0 w R S s Rt ov mv rs St) (hO : Plc.Ok s) (hF : Fit s.t) (x : Opn.E) :
    Calls Try.prog 28 #[.pointer (some ⟨R, 0, none⟩), eV x] w fun e w' => e = .returned (pairV (Plc.whereP s x)) ∧ Below w.heap.size w w' := by
  obtain ⟨id, sp, nm, pt⟩ := x
  unfold eV Plc.whereP
  simp only
  by_cases hq : s.fo = true ∧ sp = 0 ∧ nm ∈ Plc.gridN
  · rw [if_pos hq]
    exact pwhere_yes w0 w R Rt S St s ov mv rs h hO hF id sp pt nm hq.1 ((holds_iff sp nm).2 hq.2)
  · rw [if_neg hq]
    refine pwhere_no w0 w R Rt S St s ov mv rs h id sp pt nm ?_
    by_cases h1 : s.fo = true
    · refine .inr ⟨h1, ?_⟩
      cases hb : holdsB sp nm with
      | false => rfl
      | true => exact absurd ⟨h1, (holds_iff sp nm).1 hb⟩ hq
    · exact .inl (by simpa using h1)
end Go.Proofs.Ytlgmjnnfndedbaa
