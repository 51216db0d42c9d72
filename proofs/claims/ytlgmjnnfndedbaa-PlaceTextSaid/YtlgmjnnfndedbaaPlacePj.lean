/- Walks over the program's layer 13: Insert. -/
import Derived.Test.YtlgmjnnfndedbaaPlacePv
import Derived.Test.YtlgmjnnfndedbaaPlacePe
import Derived.Test.YtlgmjnnfndedbaaPlacePp
import Derived.Test.YtlgmjnnfndedbaaLinkB
namespace Go.Proofs.Ytlgmjnnfndedbaa
open Go.RowKit Go.Lib
set_option maxRecDepth 100000
set_option linter.unusedVariables false
theorem own_downP {w : World} {base base' : Nat} {e : TypeId} {size : Nat} {v : Value} {n : Nat} {xs : List Value} (h : w.ownsRow base e size v n xs) (hb : base' ≤ base) : w.ownsRow base' e size v n xs := by
  obtain ⟨q, q2⟩ := h
  exact ⟨q, q2.imp (fun e => e) fun ⟨g', cap, cur, a1, a2, a3⟩ => ⟨g', cap, cur, a1, by omega, a3⟩⟩
theorem Below.stepP {w5 V w6 : World} (h : Below w5.heap.size w5 V) (b : Below V.heap.size V w6) : Below w5.heap.size w5 w6 := h.trans (b.mono h.size)
theorem BlkW.stepP {V w6 : World} {H : Nat} {cs : Array Value} {T : TypeId} (h : BlkW V H cs T) (b : Below V.heap.size V w6) : BlkW w6 H cs T := h.below b h.lt
theorem BlkW.dr {V : World} {H : Nat} {cs : Array Value} {T : TypeId} (h : BlkW V H cs T) : BlkW V.drew H cs T := h
/-- What Insert leaves: the marks stand where they stood. -/
def InsT (w0 w w' : World) (R Rt : Nat) (S : Nat → Prop) (mv : Value) (rs : List MR) (s' : Plc.St) : Prop := ∃ S' ov' St', WorldP DomK 48 w0 w' R S' s' Rt ov' mv rs St' ∧ Turn S S' w w'
/-- A new element's block, and nothing else turned. -/
def ElemAt (w5 : World) (x : Opn.E) (v : Value) (w : World) : Prop := ∃ H, v = .pointer (some ⟨H, 0, none⟩) ∧ BlkW w H #[.int .i64 x.id, .int .u8 x.space, .string (bs x.name), .int .u8 x.point] 36 ∧ w5.heap.size ≤ H ∧ Below w5.heap.size w5 w
theorem elem_store {w5 V : World} {H : Nat} {a0 a1 a2 a3 : Value} {x : Opn.E} (h : BlkW V H #[a0, a1, a2, a3] 36) (hb : Below w5.heap.size w5 V) (hB : w5.heap.size ≤ H) :
    ElemAt w5 x (.pointer (some ⟨H, 0, none⟩)) ((((V.setCell ⟨H, 0, none⟩ (.int .i64 x.id)).setCell ⟨H, 1, none⟩ (.int .u8 x.space)).setCell ⟨H, 2, none⟩ (.string (bs x.name))).setCell ⟨H, 3, none⟩ (.int .u8 x.point)) :=
  ⟨H, rfl, (((h.set_ 0 _).set_ 1 _).set_ 2 _).set_ 3 _, hB, (((hb.setCell (p := ⟨H, 0, none⟩) hB _).setCell (p := ⟨H, 1, none⟩) hB _).setCell (p := ⟨H, 2, none⟩) hB _).setCell (p := ⟨H, 3, none⟩) hB _⟩
theorem elem_new {w5 V : World} {x : Opn.E} (hb : Below w5.heap.size w5 V) : ElemAt w5 x (.pointer (some ⟨V.heap.size, 0, none⟩)) (V.alloc (.cells #[.int .i64 x.id, .int .u8 x.space, .string (bs x.name), .int .u8 x.point] 36)) :=
  ⟨V.heap.size, rfl, BlkW.new V _ _, hb.size, hb.alloc hb.size _⟩
set_option maxHeartbeats 16000000 in
theorem pins_wany (w0 w : World) (R Rt : Nat) (S St : Nat → Prop) (s : Plc.St) (ov mv : Value) (rs : List MR) (h : WorldP DomK 48 w0 w R S s Rt ov mv rs St) (hO : Plc.Ok s) (hF : Fit s.t) (hb0 : Below w0.heap.size w0 w)
    (sp : Nat) (kd : Int) (nm : List UInt8) (tx : ByteArray) (cl : Bool) (aa : Option Addr) (an ac : Nat) (atts : List (List UInt8 × List UInt8)) (hA : IsA w0 aa an atts) (hnil : aa = none → ac = 0) (hF2 : Fit (Dom.makeT s.t (Plc.elemN sp nm atts)).1) (hc : Dom.cost (Plc.elemN sp nm atts) ≤ 500000) (h1 : an ≤ 1000000000) (hs : ∀ p ∈ atts, p.2.length ≤ 4294967296) (hnm : nm.length ≤ 281474976710656) :
    Calls Try.prog 10 #[.pointer (some ⟨R, 0, none⟩), .int .u8 sp, .agg #[.int .u8 kd, .string (bs nm), .slice aa an ac, .bool cl, .string tx]] w fun e w' => e = .returned (.int .i64 (Plc.nextI s)) ∧ InsT w0 w w' R Rt S mv rs (Plc.ins s sp nm atts) := by
  have hop := hO.few
  have hfew := hF.few
  obtain ⟨W1, hW1⟩ : ∃ W1, w.alloc (.cells #[.int .u8 kd, .string (bs nm), .slice aa an ac, .bool cl, .string tx] 31) = W1 := ⟨_, rfl⟩
  have b1 : Below w.heap.size w W1 := by rw [← hW1]; exact (Below.refl _ w).alloc (Nat.le_refl _) _
  have k1 : BlkW W1 w.heap.size #[.int .u8 kd, .string (bs nm), .slice aa an ac, .bool cl, .string tx] 31 := by rw [← hW1]; exact BlkW.new w _ _
  have q0 := k1.cell 0
  have q1 := k1.cell 1
  have q2 := k1.cell 2
  have q3 := k1.cell 3
  have q4 := k1.cell 4
  simp only [List.getElem?_toArray, List.getElem?_cons_zero, List.getElem?_cons_succ] at q0 q1 q2 q3 q4
  have HW1 := hid hW1
  have HK1 := hid k1
  have HB01 := hid (hb0.trans (b1.mono hb0.size))
  have HA := hid fun V (hV : Below w0.heap.size w0 V) => hA.below hV
  have hM1 := h.below dpc_dom b1
  have HM1 := hid hM1
  have HP := hid (show Calls Try.prog 33 #[.pointer (some ⟨R, 0, none⟩), .agg #[.int .u8 1, .int .u8 sp, .string (bs nm), .slice aa an ac, .string ⟨#[]⟩, .slice none 0 0]] W1 (fun e w' => e = .returned (.int .i64 (Dom.makeT s.t (Plc.elemN sp nm atts)).2) ∧ ∃ S' St', WorldP DomK 48 w0 w' R S' { s with t := (Dom.putT (Dom.makeT s.t (Plc.elemN sp nm atts)).1 (Plc.whereP s (Plc.cur s)).1 (Plc.whereP s (Plc.cur s)).2 (Dom.makeT s.t (Plc.elemN sp nm atts)).2).1 } Rt ov mv rs St' ∧ Turn S S' W1 w') from
    pputW_any w0 W1 R Rt S St s ov mv rs hM1 hO hF (Plc.elemN sp nm atts) hF2 hc aa an ac none 0 0 (HA.out _ HB01.out) hnil)
  have HB1 := hid b1
  have HO := hid hO
  have HHS := hid hs
  have h0 := hid h
  have HEQ := hid (show ∀ pt N, Plc.pointN sp nm atts = pt → s.op.length = N → Plc.ins s sp nm atts = { t := (Dom.putT (Dom.makeT s.t (Plc.elemN sp nm atts)).1 (Plc.whereP s (Plc.cur s)).1 (Plc.whereP s (Plc.cur s)).2 (Dom.makeT s.t (Plc.elemN sp nm atts)).2).1, op := s.op ++ [(⟨(Dom.makeT s.t (Plc.elemN sp nm atts)).2, sp, nm, pt⟩ : Opn.E)], ms := s.ms, fo := s.fo, hi := max s.hi (N + 1) } from by
    intro pt N h1 h2
    rw [← h1, ← h2]
    rfl)
  have hid2 : (Dom.makeT s.t (Plc.elemN sp nm atts)).2 = Plc.nextI s := by rw [Plc.make_elem]; rfl
  rw [hid2] at HP HEQ
  obtain ⟨NI, hNI⟩ : ∃ NI, Plc.nextI s = NI := ⟨_, rfl⟩
  rw [hNI] at HP HEQ ⊢
  obtain ⟨U, hU⟩ : ∃ U, (Dom.putT (Dom.makeT s.t (Plc.elemN sp nm atts)).1 (Plc.whereP s (Plc.cur s)).1 (Plc.whereP s (Plc.cur s)).2 NI).1 = U := ⟨_, rfl⟩
  rw [hU] at HP HEQ
  clear h hO hW1 k1 hA b1 hs hnil hb0 hM1 hF hF2 hc hid2 hNI hU
  go_enter Try.func10, Try.ntmps10
  go_wp2_with fail
  rw [HW1.out]
  refine HP.out.mono ?_
  rintro e w5 ⟨rfl, S5, St5, hM5, hS5⟩
  have HM5 := hid hM5
  have HS5 := hid hS5
  have hk5 := hS5.blkW HK1.out (fun e => by have := (h0.out.inb _ e).2; omega)
  have HK5 := hid hk5
  have HB05 := hid (hS5.below HB01.out HB01.out.size (fun k e => (HM1.out.inb k e).1))
  clear HP q0 q1 q2 q3 q4 hM5 hS5 hk5
  go_wp2_with fail
  go_upto_region 2 with fail
  go_cut [8] (fun s8 wx => ElemAt w5 ⟨NI, sp, nm, Plc.pointN sp nm atts⟩ s8 wx)
  case rest =>
    obtain ⟨H8, rfl, hb8, hge, hbw⟩ := hcut
    have hM6 := HM5.out.below dpc_dom hbw
    obtain ⟨g, cap, rfl, hc1, hc2, hE⟩ := hM6.op.view
    obtain ⟨_, c1, _, _, _⟩ := hM6.cells
    have f1 := hM6.top.free 1
    have e0 := hb8.cell 0
    have e1 := hb8.cell 1
    have e2 := hb8.cell 2
    have e3 := hb8.cell 3
    simp only [List.getElem?_toArray, List.getElem?_cons_zero, List.getElem?_cons_succ] at e0 e1 e2 e3
    obtain ⟨pt, hpt⟩ : ∃ pt, Plc.pointN sp nm atts = pt := ⟨_, rfl⟩
    obtain ⟨N, hN⟩ : ∃ N, s.op.length = N := ⟨_, rfl⟩
    have HEQ2 := hid (HEQ.out pt N hpt hN)
    rw [hpt] at e3
    dsimp only at hc1 hc2 hE c1
    rw [hN] at hc1 hE c1 hop
    have HN := hid hN
    have HM6 := hid hM6
    have HE := hid hE
    have HB6 := hid hbw
    have hRw : R < wc.heap.size := hM6.ge.2
    have al := (Below.refl wc.heap.size wc).drew.alloc (Nat.le_refl _) (.cells #[.int .i64 NI, .int .u8 sp, .string (bs nm), .int .u8 pt] 36)
    have hnw := BlkW.new wc.drew #[.int .i64 NI, .int .u8 sp, .string (bs nm), .int .u8 pt] 36
    have HAL := hid al
    have HNW := hid hnw
    have HFIN := hid fun (w7 : World) (g' cap' : Nat) (hb7 : Below wc.heap.size wc w7)
      (o7 : w7.ownsRow wc.heap.size 36 4 (.slice (some ⟨g', 0, none⟩) (N + 1) cap') (N + 1) (eL (s.op ++ [(⟨NI, sp, nm, pt⟩ : Opn.E)])))
      (hl : (s.op ++ [(⟨NI, sp, nm, pt⟩ : Opn.E)]).length = N + 1) (hcp : N + 1 ≤ cap') =>
      show ∃ g1 cap1 S6, WorldP DomK 48 w0 (w7.setCell ⟨R, 1, none⟩ (.slice (some ⟨g', 0, none⟩) (N + 1) cap')) R S6 { t := U, op := s.op ++ [(⟨NI, sp, nm, pt⟩ : Opn.E)], ms := s.ms, fo := s.fo, hi := s.hi } Rt (.slice (some ⟨g1, 0, none⟩) (N + 1) cap1) mv rs St5 ∧ Turn S5 S6 w5 (w7.setCell ⟨R, 1, none⟩ (.slice (some ⟨g', 0, none⟩) (N + 1) cap')) ∧ N + 1 ≤ cap1 from by
        have hz := HM6.out.ge
        obtain ⟨S6, hM7, hT7⟩ := HM6.out.open_ dpc_dom (l := s.op ++ [(⟨NI, sp, nm, pt⟩ : Opn.E)]) (nv := .slice (some ⟨g', 0, none⟩) (N + 1) cap') hb7 ((OpW.of (by rw [hl]; exact o7) (by rw [hl]; omega)).down (by omega)) (fun k e => .inr (own_ge o7 k e))
        exact ⟨g', cap', S6, hM7, (Turn.of_below HB6.out).trans hT7, hcp⟩
    have HR := hid fun (V : World) (hV : Below wc.heap.size wc V) => And.intro (cell_up c1 hV) ((HM6.out.below dpc_dom hV).top.free 1)
    clear hM6 hE hbw hb8 hnw al HEQ HK5 hN
    go_wp2_with fail
    go_cut [] (fun wx => ∃ g' cap' S6, WorldP DomK 48 w0 wx R S6 { t := U, op := s.op ++ [(⟨NI, sp, nm, pt⟩ : Opn.E)], ms := s.ms, fo := s.fo, hi := s.hi } Rt (.slice (some ⟨g', 0, none⟩) (N + 1) cap') mv rs St5 ∧ Turn S5 S6 w5 wx ∧ N + 1 ≤ cap')
    case rest =>
      obtain ⟨g', cap', S6, hM6, hT6, hcp⟩ := hcut
      obtain ⟨_, d1, _, _, d4⟩ := hM6.cells
      have f4 := hM6.top.free 4
      have HM7 := hid hM6
      have HT7 := hid (HS5.out.trans hT6)
      clear hM6 hT6 c1 f1 e0 e1 e2 e3
      have hNb : N + 1 ≤ 900001 := by omega
      go_wp2_with fail
      go_region
      rw [show max (s.hi : Int) ((N : Int) + 1) = ((max s.hi (N + 1) : Nat) : Int) by omega]
      obtain ⟨hM8, hT8⟩ := HM7.out.high_ dpc_dom (max s.hi (N + 1))
      have HM9 := hid (hM8.below dpc_dom (Below.refl _ _).drew)
      have HT9 := hid (((Turn.of_below HB1.out).trans (HT7.out.trans hT8)).trans (Turn.of_below (Below.refl _ _).drew))
      clear hM8 hT8 HM7 HT7 f4 d1 d4
      go_wp2_with fail
      go_ret
      refine ⟨rfl, ?_⟩
      rw [HEQ2.out]
      exact ⟨_, _, _, HM9.out, HT9.out⟩
    case first =>
      have cx1 := cell_up c1 HAL.out
      have cy1 := cell_up c1 (Below.refl wc.heap.size wc).drew
      go_region_law (first
        | (refine step_call rfl rfl (enters_of Try.func36 (by kernel_rfl) rfl) ?_
           refine (pclip_any (some ⟨g, 0, none⟩) N cap _ hc1 hc2).mono ?_
           rintro e w6 ⟨rfl, rfl⟩
           refine ⟨_, rfl, ?_⟩)
        | (refine step_growE rfl _ _ rfl ⟨g, 0, none⟩ N s.op (HE.out.below HAL.out) rfl wc.heap.size 1 ⟨NI, sp, nm, pt⟩ rfl HNW.out (by omega) ?_
           intro v' w7 o7 b7
           have b8 := HAL.out.trans (b7.mono HAL.out.size)
           obtain ⟨r1, f1⟩ := HR.out _ b8
           have hl7 : (s.op ++ [(⟨NI, sp, nm, pt⟩ : Opn.E)]).length = N + 1 := by rw [List.length_append, HN.out]; rfl
           rw [hl7] at o7
           obtain ⟨g', cap', hv', hcp⟩ := own_addr o7 (by omega)
           subst hv'
           have HO7 := hid (own_downP o7 HAL.out.size)
           have HL8 := hid hl7
           have HB8 := hid b8
           clear o7 b7 b8 hl7))
      all_goals
        go_wp2_with fail
        go_meet
        exact HFIN.out _ _ _ HB8.out HO7.out HL8.out hcp
  case first =>
    have q0 := HK5.out.cell 0
    have q1 := HK5.out.cell 1
    have q2 := HK5.out.cell 2
    have q3 := HK5.out.cell 3
    have q4 := HK5.out.cell 4
    simp only [List.getElem?_toArray, List.getElem?_cons_zero, List.getElem?_cons_succ] at q0 q1 q2 q3 q4
    have HQ := hid fun V (hV : Below w5.heap.size w5 V) => And.intro (cell_up q0 hV) (And.intro (cell_up q1 hV) (And.intro (cell_up q2 hV) (And.intro (cell_up q3 hV) (cell_up q4 hV))))
    have HPT := hid fun V (hV : Below w5.heap.size w5 V) => ppoint_any sp kd nm tx cl aa an ac atts V (HA.out V (HB05.out.trans (hV.mono HB05.out.size))) h1 HHS.out
    have HCL := hid fun V => tclone (bs nm) V (show (bs nm).size ≤ _ from hnm)
    have e5 := (Below.refl w5.heap.size w5).drew
    have e5z := e5.alloc e5.size (.cells #[.int .i64 0, .int .u8 0, .string ⟨#[]⟩, .int .u8 0] 36)
    have hz5 := BlkW.new w5.drew #[.int .i64 0, .int .u8 0, .string ⟨#[]⟩, .int .u8 0] 36
    have hz5b := BlkW.dr (BlkW.new w5 #[.int .i64 0, .int .u8 0, .string ⟨#[]⟩, .int .u8 0] 36)
    have e5y := ((Below.refl w5.heap.size w5).alloc (Nat.le_refl _) (.cells #[.int .i64 0, .int .u8 0, .string ⟨#[]⟩, .int .u8 0] 36)).drew
    obtain ⟨p0, p1, p2, p3, p4⟩ := HQ.out _ e5y
    obtain ⟨o0, o1, o2, o3, o4⟩ := HQ.out _ e5
    go_region_law (first
      | (refine step_call2 rfl rfl (enters_of Try.func35 (by kernel_rfl) rfl) ?_
         refine (HPT.out _ (by assumption)).mono ?_
         rintro e w6 ⟨rfl, b6⟩
         refine ⟨_, rfl, ?_⟩
         have e6 := Below.stepP (w5 := w5) (by assumption) b6
         obtain ⟨q0, q1, q2, q3, q4⟩ := HQ.out _ e6
         have e6z := e6.alloc e6.size (.cells #[.int .i64 0, .int .u8 0, .string ⟨#[]⟩, .int .u8 0] 36)
         obtain ⟨r0, r1, r2, r3, r4⟩ := HQ.out _ e6z
         have hn6 := BlkW.new w6 #[.int .i64 0, .int .u8 0, .string ⟨#[]⟩, .int .u8 0] 36
         try (have hz6 := BlkW.stepP (cs := #[.int .i64 0, .int .u8 0, .string ⟨#[]⟩, .int .u8 0]) (T := 36) (by assumption) b6
              have y60 := hz6.cell 0
              have y61 := hz6.cell 1
              have y62 := hz6.cell 2
              have y63 := hz6.cell 3
              have z60 := hz6.free 0
              have z61 := hz6.free 1
              have z62 := hz6.free 2
              have z63 := hz6.free 3
              simp only [List.getElem?_toArray, List.getElem?_cons_zero, List.getElem?_cons_succ] at y60 y61 y62 y63))
      | (refine step_call rfl rfl (enters_of Try.func34 (by kernel_rfl) rfl) ?_
         refine (HCL.out _).mono ?_
         rintro e w7 ⟨rfl, b7⟩
         refine ⟨_, rfl, ?_⟩
         have e7 := Below.stepP (w5 := w5) (by assumption) b7
         obtain ⟨q0, q1, q2, q3, q4⟩ := HQ.out _ e7
         have e7z := e7.alloc e7.size (.cells #[.int .i64 0, .int .u8 0, .string ⟨#[]⟩, .int .u8 0] 36)
         obtain ⟨r0, r1, r2, r3, r4⟩ := HQ.out _ e7z
         have hn7 := BlkW.new w7 #[.int .i64 0, .int .u8 0, .string ⟨#[]⟩, .int .u8 0] 36
         try (have hz7 := BlkW.stepP (cs := #[.int .i64 0, .int .u8 0, .string ⟨#[]⟩, .int .u8 0]) (T := 36) (by assumption) b7
              have y70 := hz7.cell 0
              have y71 := hz7.cell 1
              have y72 := hz7.cell 2
              have y73 := hz7.cell 3
              have z70 := hz7.free 0
              have z71 := hz7.free 1
              have z72 := hz7.free 2
              have z73 := hz7.free 3
              simp only [List.getElem?_toArray, List.getElem?_cons_zero, List.getElem?_cons_succ] at y70 y71 y72 y73)))
    all_goals
      go_wp2_with fail
      go_meet
      first
        | with_reducible exact elem_store hz6 e6 (by first | exact Nat.le_refl _ | exact e7.size)
        | with_reducible exact elem_store hz7 e7 (by first | exact Nat.le_refl _ | exact e6.size)
        | with_reducible exact elem_store hn6 e6z e6.size
        | with_reducible exact elem_store hn7 e7z e7.size
        | with_reducible exact elem_new e6
        | with_reducible exact elem_new e7
end Go.Proofs.Ytlgmjnnfndedbaa
