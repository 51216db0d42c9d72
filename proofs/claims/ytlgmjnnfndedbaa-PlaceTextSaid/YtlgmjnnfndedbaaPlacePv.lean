/- Walks over the program's layer 13: put. Walks over the program's layer 13: Write, Note. -/
import Derived.Test.YtlgmjnnfndedbaaPlacePw
import Derived.Test.YtlgmjnnfndedbaaRefWhole
import Derived.Deep.RegionHeld3
import Derived.Deep.RegionLaw
import Derived.Deep.DeepCutAuto
namespace Go.Proofs.Ytlgmjnnfndedbaa
open Go.RowKit Go.Lib
set_option maxRecDepth 100000
set_option linter.unusedVariables false
set_option maxHeartbeats 16000000 in
theorem pputW_any (w0 w : World) (R Rt : Nat) (S St : Nat → Prop) (s : Plc.St) (ov mv : Value) (rs : List MR) (h : WorldP DomK 48 w0 w R S s Rt ov mv rs St) (hO : Plc.Ok s) (hF : Fit s.t) (x : Dom.N) (hF2 : Fit (Dom.makeT s.t x).1) (hc : Dom.cost x ≤ 500000)
    (aa : Option Addr) (an ac : Nat) (ka : Option Addr) (kn kc : Nat) (hA : IsA w aa an x.atts) (hnil : aa = none → ac = 0) :
    Calls Try.prog 33 #[.pointer (some ⟨R, 0, none⟩), .agg #[.int .u8 x.kind, .int .u8 x.space, .string (bs x.name), .slice aa an ac, .string (bs x.text), .slice ka kn kc]] w fun e w' => e = .returned (.int .i64 (Dom.makeT s.t x).2) ∧ ∃ S' St', WorldP DomK 48 w0 w' R S' { s with t := (Dom.putT (Dom.makeT s.t x).1 (Plc.whereP s (Plc.cur s)).1 (Plc.whereP s (Plc.cur s)).2 (Dom.makeT s.t x).2).1 } Rt ov mv rs St' ∧ Turn S S' w w' := by
  have hop := hO.few
  have hfew := hF.few
  have hw0 : w0.heap.size ≤ w.heap.size := by have := h.ge; omega
  obtain ⟨W1, hW1⟩ : ∃ W1, w.alloc (.cells #[.int .u8 x.kind, .int .u8 x.space, .string (bs x.name), .slice aa an ac, .string (bs x.text), .slice ka kn kc] 61) = W1 := ⟨_, rfl⟩
  have b1 : Below w.heap.size w W1 := by rw [← hW1]; exact (Below.refl _ w).alloc (Nat.le_refl _) _
  have k1 : BlkW W1 w.heap.size #[.int .u8 x.kind, .int .u8 x.space, .string (bs x.name), .slice aa an ac, .string (bs x.text), .slice ka kn kc] 61 := by rw [← hW1]; exact BlkW.new w _ _
  have HW1 := hid hW1
  have HK1 := hid k1
  have HM1 := hid (h.below dpc_dom b1)
  have HB1 := hid b1
  have HG := hid hO.good
  obtain ⟨P, hP⟩ : ∃ P, Plc.whereP s (Plc.cur s) = P := ⟨_, rfl⟩
  have HCU := hid (pcur_any w0 W1 R Rt S St s ov mv rs HM1.out hO (by omega))
  have HWH := hid fun V (hV : Below W1.heap.size W1 V) => pwhere_any w0 V R Rt S St s ov mv rs (HM1.out.below dpc_dom hV) hO hF (Plc.cur s)
  rw [hP] at HWH ⊢
  have hAV := hid fun V (hV : Below w.heap.size w V) => hA.below hV
  have h0 := hid h
  have HF := hid hF
  have HF2 := hid hF2
  have hmk0 := hid fun (V : World) (hV : Below w.heap.size w V) => domM_all.make V w0.heap.size Rt St s.t x aa an ac ka kn kc True.intro (dpc_dom.below h.tree hV) hO.good hF (by have := hV.size; omega) (hA.below hV) hnil hc
  obtain ⟨u, hu⟩ : ∃ u, (Dom.makeT s.t x).1 = u := ⟨_, rfl⟩
  obtain ⟨i, hi⟩ : ∃ i, (Dom.makeT s.t x).2 = i := ⟨_, rfl⟩
  have hGu : Dom.Good u := by rw [← hu]; exact Dom.good_make hO.good x
  rw [hu] at hmk0 HF2 ⊢
  rw [hi] at hmk0 ⊢
  have HGU := hid hGu
  clear h hO hW1 k1 hA b1 hP hF hF2 hc hu hi hGu hnil
  generalize x.kind = xk at *
  generalize x.space = xs at *
  generalize bs x.name = xn at *
  generalize bs x.text = xt at *
  go_enter Try.func33, Try.ntmps33
  go_wp2_with fail
  rw [HW1.out]
  refine HCU.out.mono ?_
  rintro e w2 ⟨rfl, b2⟩
  have HB2 := hid b2
  clear b2
  go_wp2_with fail
  refine (HWH.out w2 HB2.out).mono ?_
  rintro e w3 ⟨rfl, b3⟩
  unfold pairV
  have HB3 := hid (HB2.out.trans (b3.mono HB2.out.size))
  clear b3 HCU HWH HB2
  have HM3 := hid (HM1.out.below dpc_dom HB3.out)
  have HB03 := hid (HB1.out.trans (HB3.out.mono HB1.out.size))
  obtain ⟨c0, c1, c2, c3, c4⟩ := HM3.out.cells
  have k3 := HK1.out.below HB3.out HK1.out.lt
  have q0 := k3.cell 0
  have q1 := k3.cell 1
  have q2 := k3.cell 2
  have q3 := k3.cell 3
  have q4 := k3.cell 4
  have q5 := k3.cell 5
  have HK3 := hid k3
  simp only [List.getElem?_toArray, List.getElem?_cons_zero, List.getElem?_cons_succ] at q0 q1 q2 q3 q4 q5
  have BD := (Below.refl w3.heap.size w3).drew
  have HMK := hid fun (V : World) (hV : Below w3.heap.size w3 V) => hmk0.out V (HB03.out.trans (hV.mono HB03.out.size))
  have HBD := hid BD
  have hnR : ∀ (V V' : World), Below w3.heap.size w3 V → TurnedP DomK V V' w0.heap.size Rt St u → (V'.cell? ⟨R, 0, none⟩ = some (.pointer (some ⟨Rt, 0, none⟩)) ∧ V'.cell? ⟨w.heap.size, 0, none⟩ = some (.int .u8 xk) ∧ V'.cell? ⟨w.heap.size, 1, none⟩ = some (.int .u8 xs) ∧ V'.cell? ⟨w.heap.size, 2, none⟩ = some (.string xn) ∧ V'.cell? ⟨w.heap.size, 3, none⟩ = some (.slice aa an ac) ∧ V'.cell? ⟨w.heap.size, 4, none⟩ = some (.string xt) ∧ V'.cell? ⟨w.heap.size, 5, none⟩ = some (.slice ka kn kc)) := fun V V' hV hT => by
    obtain ⟨S', _, hT⟩ := hT
    have hb : ∀ k, k < w3.heap.size → ¬ St k → V'.heap[k]? = w3.heap[k]? := fun k hk hn => (hT.block k (Nat.lt_of_lt_of_le hk hV.size) hn).trans (hV.block k hk)
    have hR := hb R HM3.out.ge.2 HM3.out.aR.1
    have hH := hb w.heap.size HK3.out.lt (fun e => by have := (h0.out.inb _ ((h0.out.inS _).2 (.inr (.inl e)))).2; omega)
    exact ⟨(World.cell?_of_block hR).trans c0, (World.cell?_of_block hH).trans q0, (World.cell?_of_block hH).trans q1, (World.cell?_of_block hH).trans q2, (World.cell?_of_block hH).trans q3, (World.cell?_of_block hH).trans q4, (World.cell?_of_block hH).trans q5⟩
  have HNR := hid hnR
  have SA := hid (And.intro c0 (And.intro q0 (And.intro q1 (And.intro q2 (And.intro q3 (And.intro q4 q5))))))
  have SB := hid (And.intro (cell_up c0 HBD.out) (And.intro (cell_up q0 HBD.out) (And.intro (cell_up q1 HBD.out) (And.intro (cell_up q2 HBD.out) (And.intro (cell_up q3 HBD.out) (And.intro (cell_up q4 HBD.out) (cell_up q5 HBD.out)))))))
  clear hnR c0 c1 c2 c3 c4 k3 BD hmk0 q0 q1 q2 q3 q4 q5
  go_wp2_with fail
  first
    | (go_region_held3 (fun V => V.cell? ⟨R, 0, none⟩ = some (.pointer (some ⟨Rt, 0, none⟩)) ∧ V.cell? ⟨w.heap.size, 0, none⟩ = some (.int .u8 xk) ∧ V.cell? ⟨w.heap.size, 1, none⟩ = some (.int .u8 xs) ∧ V.cell? ⟨w.heap.size, 2, none⟩ = some (.string xn) ∧ V.cell? ⟨w.heap.size, 3, none⟩ = some (.slice aa an ac) ∧ V.cell? ⟨w.heap.size, 4, none⟩ = some (.string xt) ∧ V.cell? ⟨w.heap.size, 5, none⟩ = some (.slice ka kn kc)) (first | exact SB.out | exact SA.out)
        (first | (go_at_call 60; (with_reducible refine (HMK.out _ HBD.out).mono ?_); rintro e w4 ⟨rfl, hT4⟩; have SA := hid (HNR.out _ _ HBD.out hT4); have HT4 := hid hT4; clear hT4)))
    | fail
  have HTB := hid (Turn.of_below (S := St) HBD.out)
  obtain ⟨St4, hX4, hU4⟩ := HT4.out
  obtain ⟨S4, hM4, hS4⟩ := HM3.out.tree_ dpc_dom hX4 (HTB.out.trans hU4)
  have hz4 : w0.heap.size ≤ w4.heap.size := by have := hM4.ge; omega
  have HPU := hid (domM_all.put w4 w0.heap.size Rt St4 u P.1 P.2 i True.intro hX4 HGU.out HF2.out hz4)
  obtain ⟨d0, _, _, _, _⟩ := hM4.cells
  have HM4 := hid hM4
  have HS4 := hid ((Turn.of_below (HB1.out.trans (HB3.out.mono HB1.out.size))).trans hS4)
  clear HMK HBD SA SB HNR HT4 HTB hX4 hU4 hM4 hS4 hz4
  go_wp2_with fail
  refine HPU.out.mono ?_
  rintro e w5 ⟨rfl, hT5⟩
  obtain ⟨St5, hX5, hU5⟩ := hT5
  obtain ⟨S5, hM5, hS5⟩ := HM4.out.tree_ dpc_dom hX5 hU5
  have HM5 := hid hM5
  have HS5 := hid (HS4.out.trans hS5)
  clear HPU d0 hX5 hU5 hM5 hS5 HS4 HM4
  go_wp2_with fail
  go_ret
  exact ⟨rfl, S5, St5, HM5.out, HS5.out⟩
end Go.Proofs.Ytlgmjnnfndedbaa
namespace Go.Proofs.Ytlgmjnnfndedbaa
open Go.RowKit Go.Lib
set_option maxRecDepth 100000
set_option linter.unusedVariables false
set_option maxHeartbeats 4000000 in
theorem pwr_any (w0 w : World) (R Rt : Nat) (S St : Nat → Prop) (s : Plc.St) (ov mv : Value) (rs : List MR) (h : WorldP DomK 48 w0 w R S s Rt ov mv rs St) (hO : Plc.Ok s) (hF : Fit s.t)
    (x : List UInt8) (hx : x.length ≤ 4000000) :
    Calls Try.prog 14 #[.pointer (some ⟨R, 0, none⟩), .string (bs x)] w fun e w' => (∃ v, e = .returned v) ∧ PTurned DomK 48 w0 w w' R S (Plc.write s x) := by
  have hop := hO.few
  have hfew := hF.few
  have hw0 : w0.heap.size ≤ w.heap.size := by have := h.ge; omega
  have HM := hid h
  obtain ⟨P, hP⟩ : ∃ P, Plc.whereP s (Plc.cur s) = P := ⟨_, rfl⟩
  have HP := hid hP
  have HCU := hid (pcur_any w0 w R Rt S St s ov mv rs h hO (by omega))
  have HWH := hid fun V (hV : Below w.heap.size w V) => pwhere_any w0 V R Rt S St s ov mv rs (h.below dpc_dom hV) hO hF (Plc.cur s)
  rw [hP] at HWH
  have HWR := hid fun V (hV : Below w.heap.size w V) => domM_all.write V w0.heap.size Rt St s.t P.1 P.2 x True.intro (dpc_dom.below h.tree hV) hO.good hF (by have := hV.size; omega) hx
  clear h hO hP hF
  go_enter Try.func14, Try.ntmps14
  go_wp2_with fail
  refine HCU.out.mono ?_
  rintro e w2 ⟨rfl, b2⟩
  have HB2 := hid b2
  clear b2
  go_wp2_with fail
  refine (HWH.out w2 HB2.out).mono ?_
  rintro e w3 ⟨rfl, b3⟩
  unfold pairV
  have HB3 := hid (HB2.out.trans (b3.mono HB2.out.size))
  clear b3 HCU HWH HB2
  have HM3 := hid (HM.out.below dpc_dom HB3.out)
  obtain ⟨c0, c1, c2, c3, c4⟩ := HM3.out.cells
  clear c1 c2 c3 c4
  go_wp2_with fail
  refine (HWR.out w3 HB3.out).mono ?_
  rintro e w4 ⟨rfl, hT4⟩
  obtain ⟨St4, hX4, hU4⟩ := hT4
  obtain ⟨S4, hM4, hS4⟩ := HM3.out.tree_ dpc_dom hX4 hU4
  have HE := hid (show PTurned DomK 48 w0 w w4 R S (Plc.write s x) from by
    rw [show Plc.write s x = { s with t := (Dom.writeT s.t P.1 P.2 x).1 } from by unfold Plc.write; rw [HP.out]]
    exact ⟨S4, ⟨_, _, _, _, _, hM4⟩, (Turn.of_below HB3.out).trans hS4⟩)
  clear hX4 hU4 hM4 hS4 HWR HM HM3
  go_wp2_with fail
  go_end0
  exact ⟨⟨_, rfl⟩, HE.out⟩
end Go.Proofs.Ytlgmjnnfndedbaa
