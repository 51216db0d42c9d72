/- Walks over the program's package dom: nodes, line by line. -/
import Derived.Test.YthbklcpjbeelhaaDomSp
namespace Go.Proofs.Ythbklcpjbeelhaa
open Go.RowKit Go.Lib
set_option maxRecDepth 100000
set_option linter.unusedVariables false

set_option maxHeartbeats 16000000 in
theorem pnodes_succ (d : Nat) (IH : PNodesC d) : PNodesC (d + 1) := by
  intro S ns a n c deep b mb l w0 w h hsp hS hw hF hl
  have HSP := hid hsp
  have hlen := h.len
  have hn := Dom.sumW_len d ns
  have HH := hid h
  have HIH := hid IH
  have HLN0 := hid hlen
  have HW := hid hw
  have HFF := hid hF
  have HL := hid hl
  have H0 := hid (show StP w0 w b mb (l ++ (ns.take 0).flatMap (Dom.lineP (Dom.linesP d) (frontN deep))) from by rw [List.take_zero, List.flatMap_nil, List.append_nil]; exact hS)
  have hdeep : deep ≤ 150000 := by omega
  have hn1 : n ≤ 100000 := by omega
  clear h hS hw hF hl IH hlen hn hsp
  go_enter Try.func59, Try.ntmps59
  go_wp2
  go_loopg [12] n (fun gg iv wr => ∃ (k : Nat), k + gg = n ∧ iv = .int .i64 k ∧ Hid (StP w0 wr b mb (l ++ (ns.take k).flatMap (Dom.lineP (Dom.linesP d) (frontN deep)))) ∧ Hid (KeptU b w wr))
  case atStart => exact ⟨0, by omega, rfl, H0, hid (KeptU.refl _ _)⟩
  case round =>
    obtain ⟨k, hk, rfl, hI, hKp⟩ := hrel
    by_cases hlt : k < n
    · have d1 : decide (k < n) = true := decide_eq_true hlt
      have hltI : (k : Int) < (n : Int) := by omega
      obtain ⟨x, hx⟩ : ∃ x, ns[k]? = some x := ⟨_, List.getElem?_eq_getElem (by have := HLN0.out; omega)⟩
      obtain ⟨htl, htk⟩ := take_lines (d := d) (F := frontN deep) k hx
      have hrm := dp_room (d := d) (F := frontN deep) HW.out (by rw [frontN_len]; exact HFF.out) (List.mem_of_getElem? hx)
      obtain ⟨r1, r2, r3, r4, r5, r6, r7, r8⟩ := hrm
      have hll := HL.out
      obtain ⟨b1, o1, rfl, _, hat⟩ := HH.out.at (by omega)
      obtain ⟨aa, an, ac, ka, kn, kc, X⟩ := hat k x hx
      have x0 := cell_up X.c0 hI.out.2.2
      have x1 := cell_up X.c1 hI.out.2.2
      have x2 := cell_up X.c2 hI.out.2.2
      have x3 := cell_up X.c3 hI.out.2.2
      have x4 := cell_up X.c4 hI.out.2.2
      have x5 := cell_up X.c5 hI.out.2.2
      have hSt := hI.out
      have x_ := True.intro
      clear hI hat
      by_cases h2 : x.kind = 2
      · have h3 := h2
        have e1 : ((2 : Int) == 1) = false := rfl
        have hlp : Dom.lineP (Dom.linesP d) (frontN deep) x = frontN deep ++ [34] ++ x.text ++ [34, 10] := by
          unfold Dom.lineP
          rw [if_pos h3]
        have hfl : ([[34], x.text, [34]] : List (List UInt8)).flatten = [34] ++ x.text ++ [34] := by simp
        have HLN := hid (line_st (pb := wr.heap.size + 1) (k := 3) (w := (wr.alloc (.cells #[.int .u8 x.kind, .int .u8 x.space, .string (bs x.name), .slice aa an ac, .string (bs x.text), .slice ka kn kc] 32)).alloc (.cells #[.string ⟨#[34]⟩, .string (bs x.text), .string ⟨#[34]⟩] 9)) deep [[34], x.text, [34]]
          (hSt.later (((Below.refl _ wr).alloc (Nat.le_refl _) _).alloc (by simp) _))
          (by have q := BlkW.new (wr.alloc (.cells #[.int .u8 x.kind, .int .u8 x.space, .string (bs x.name), .slice aa an ac, .string (bs x.text), .slice ka kn kc] 32)) #[.string ⟨#[34]⟩, .string (bs x.text), .string ⟨#[34]⟩] 9; rw [World.size_alloc] at q; exact q) rfl (by omega) (by omega)
          (by rw [hlp] at htl; rw [hfl]; simp only [List.length_append, List.length_cons, List.length_nil, frontN_len] at htl ⊢; omega)
          (l ++ (ns.take (k + 1)).flatMap (Dom.lineP (Dom.linesP d) (frontN deep))) (by rw [htk, hlp, hfl]; simp only [List.append_assoc, List.cons_append, List.nil_append]))
        rw [h3] at HLN x0
        generalize bs x.name = NM at *
        generalize bs x.text = TX at *
        generalize x.space = SP at *
        clear hSt hlp hfl htl htk h3 X x_ HH
        go_wp2_with fail
        refine (HLN.out).mono ?_
        rintro e w2 ⟨rfl, hS2, hK2⟩
        have HS2 := hid hS2
        have HK2 := hid (hKp.out.trans ((KeptU.below (((Below.refl _ wr).alloc (Nat.le_refl _) _).alloc (by simp) _)).trans hK2))
        clear hS2 hK2
        go_wp2
        go_roundg (n - (k + 1))
        case measure => omega
        case rel => exact ⟨k + 1, by omega, by go_num, HS2, HK2⟩
      · by_cases h3' : x.kind = 3
        · have h3 := h3'
          have hlp : Dom.lineP (Dom.linesP d) (frontN deep) x = frontN deep ++ [60, 33, 45, 45, 32] ++ x.text ++ [32, 45, 45, 62, 10] := by
            unfold Dom.lineP
            rw [if_neg h2, if_pos h3]
          have hfl : ([[60, 33, 45, 45, 32], x.text, [32, 45, 45, 62]] : List (List UInt8)).flatten = [60, 33, 45, 45, 32] ++ x.text ++ [32, 45, 45, 62] := by simp
          have HLN := hid (line_st (pb := wr.heap.size + 1) (k := 3) (w := (wr.alloc (.cells #[.int .u8 x.kind, .int .u8 x.space, .string (bs x.name), .slice aa an ac, .string (bs x.text), .slice ka kn kc] 32)).alloc (.cells #[.string ⟨#[60, 33, 45, 45, 32]⟩, .string (bs x.text), .string ⟨#[32, 45, 45, 62]⟩] 9)) deep [[60, 33, 45, 45, 32], x.text, [32, 45, 45, 62]]
            (hSt.later (((Below.refl _ wr).alloc (Nat.le_refl _) _).alloc (by simp) _))
            (by have q := BlkW.new (wr.alloc (.cells #[.int .u8 x.kind, .int .u8 x.space, .string (bs x.name), .slice aa an ac, .string (bs x.text), .slice ka kn kc] 32)) #[.string ⟨#[60, 33, 45, 45, 32]⟩, .string (bs x.text), .string ⟨#[32, 45, 45, 62]⟩] 9; rw [World.size_alloc] at q; exact q) rfl (by omega) (by omega)
            (by rw [hlp] at htl; rw [hfl]; simp only [List.length_append, List.length_cons, List.length_nil, frontN_len] at htl ⊢; omega)
            (l ++ (ns.take (k + 1)).flatMap (Dom.lineP (Dom.linesP d) (frontN deep))) (by rw [htk, hlp, hfl]; simp only [List.append_assoc, List.cons_append, List.nil_append]))
          rw [h3] at HLN x0
          generalize bs x.name = NM at *
          generalize bs x.text = TX at *
          generalize x.space = SP at *
          clear hSt hlp hfl htl htk h3 X x_ HH
          go_wp2_with fail
          refine (HLN.out).mono ?_
          rintro e w2 ⟨rfl, hS2, hK2⟩
          have HS2 := hid hS2
          have HK2 := hid (hKp.out.trans ((KeptU.below (((Below.refl _ wr).alloc (Nat.le_refl _) _).alloc (by simp) _)).trans hK2))
          clear hS2 hK2
          go_wp2
          go_roundg (n - (k + 1))
          case measure => omega
          case rel => exact ⟨k + 1, by omega, by go_num, HS2, HK2⟩
        · by_cases h1 : x.kind = 1
          · -- an element
            have hlp : Dom.lineP (Dom.linesP d) (frontN deep) x = Dom.headP (frontN deep) x ++ Dom.attsP (frontN deep) x.atts ++ Dom.linesP d x.kids (frontN (deep + 1)) := by
              unfold Dom.lineP
              rw [if_neg h2, if_neg h3', if_pos h1]
              rfl
            rw [hlp] at htl htk
            have hspx := HSP.out x (List.mem_of_getElem? hx)
            have hG := hSt.2.1
            obtain ⟨⟨pp, vv, hBP⟩, _, hB0⟩ := hSt
            have hbb : BlkW wr b #[pp, vv, .map (some mb)] 81 := hBP.blk
            have hBX := BlkW.new wr #[.int .u8 x.kind, .int .u8 x.space, .string (bs x.name), .slice aa an ac, .string (bs x.text), .slice ka kn kc] 32
            have hbx := hbb.alloc (.cells #[.int .u8 x.kind, .int .u8 x.space, .string (bs x.name), .slice aa an ac, .string (bs x.text), .slice ka kn kc] 32)
            have hSt2 : StP w0 (wr.alloc (.cells #[.int .u8 x.kind, .int .u8 x.space, .string (bs x.name), .slice aa an ac, .string (bs x.text), .slice ka kn kc] 32)) b mb (l ++ (ns.take k).flatMap (Dom.lineP (Dom.linesP d) (frontN deep))) := StP.later ⟨⟨pp, vv, hBP⟩, hG, hB0⟩ ((Below.refl _ wr).alloc (Nat.le_refl _) _)
            have hK1 : KeptU b w (wr.alloc (.cells #[.int .u8 x.kind, .int .u8 x.space, .string (bs x.name), .slice aa an ac, .string (bs x.text), .slice ka kn kc] 32)) := hKp.out.trans (KeptU.below ((Below.refl _ wr).alloc (Nat.le_refl _) _))
            rw [h1] at hBX hbx hSt2 hK1 x0
            have hsz1 : (wr.alloc (.cells #[.int .u8 (1 : Nat), .int .u8 x.space, .string (bs x.name), .slice aa an ac, .string (bs x.text), .slice ka kn kc] 32)).heap.size = wr.heap.size + 1 := World.size_alloc _ _
            obtain ⟨W1, hW1⟩ : ∃ W1, wr.alloc (.cells #[.int .u8 (1 : Nat), .int .u8 x.space, .string (bs x.name), .slice aa an ac, .string (bs x.text), .slice ka kn kc] 32) = W1 := ⟨_, rfl⟩
            rw [hW1] at hBX hbx hSt2 hK1 hsz1
            have hW1' : wr.alloc (.cells #[.int .u8 1, .int .u8 x.space, .string (bs x.name), .slice aa an ac, .string (bs x.text), .slice ka kn kc] 32) = W1 := hW1
            -- what is read ahead of the first line
            have lk : ∀ W, Below W1.heap.size W1 W → (W.cell? ⟨b, 2, none⟩ = some (.map (some mb)) ∧ W.cell? ⟨wr.heap.size, 1, none⟩ = some (.int .u8 x.space) ∧ W.cell? ⟨wr.heap.size, 2, none⟩ = some (.string (bs x.name))) ∧ (Instr.lookup 75 (.map (some mb)) (.int .u8 x.space) false).run Try.prog W = .ok (.agg #[.string (bs (Dom.spaceP x.space))]) W := fun W hW =>
              ⟨⟨(hbx.below hW hbx.lt).cell 2, (hBX.below hW hBX.lt).cell 1, (hBX.below hW hBX.lt).cell 2⟩, run_lookG (hSt2.2.1.keep (hW.block mb (World.ownsMap.lt hSt2.2.1)) hW.size) x.space hspx.1⟩
            have al4 : Below W1.heap.size W1 ((W1.alloc (.cells #[.string ⟨#[60]⟩, .string (bs (Dom.spaceP x.space)), .string (bs x.name), .string ⟨#[62]⟩] 9)).drew) := ((Below.refl _ W1).alloc (Nat.le_refl _) _).drew
            have hfl : ([[60], Dom.spaceP x.space, x.name, [62]] : List (List UInt8)).flatten = [60] ++ Dom.spaceP x.space ++ x.name ++ [62] := by simp
            have hhd : frontN deep ++ ([[60], Dom.spaceP x.space, x.name, [62]] : List (List UInt8)).flatten ++ [10] = Dom.headP (frontN deep) x := by rw [hfl]; unfold Dom.headP; simp only [List.append_assoc, List.cons_append, List.nil_append]
            have hspl := Dom.space_len x.space
            simp only [List.length_append] at htl
            have HLN := hid (line_st (pb := W1.heap.size) (k := 4) (w := (W1.alloc (.cells #[.string ⟨#[60]⟩, .string (bs (Dom.spaceP x.space)), .string (bs x.name), .string ⟨#[62]⟩] 9)).drew) deep [[60], Dom.spaceP x.space, x.name, [62]]
              (hSt2.later al4)
              (BlkW.new W1 #[.string ⟨#[60]⟩, .string (bs (Dom.spaceP x.space)), .string (bs x.name), .string ⟨#[62]⟩] 9) rfl (by omega) (by omega)
              (by rw [hfl]; simp only [List.length_append, List.length_cons, List.length_nil]; omega)
              _ (by rw [List.append_assoc, List.append_assoc, ← List.append_assoc (frontN deep), hhd]))
            have SF := hid (lk _ (Below.refl _ W1).drew)
            have SG := hid (lk _ (Below.refl _ W1))
            have SA := hid (lk _ al4)
            have HBX := hid hBX
            have HBB := hid hbx
            have HLK := hid lk
            have HAL4 := hid al4
            have HK1 := hid hK1
            have HKID := hid X.kids
            have HATT := hid X.atts
            have HTL := hid htl
            have HTK := hid htk
            have HSPX := hid hspx.2
            have HSP1 := hid hspx.1
            have HX := hid hx
            have HR := hid (And.intro r3 (And.intro r4 (And.intro r5 (And.intro r6 (And.intro r7 r8)))))
            have HNEB := hid (show wr.heap.size ≠ b from fun e => by have := hbb.lt; omega)
            obtain ⟨SG2, hSG2⟩ : ∃ q, bs (Dom.spaceP x.space) = q := ⟨_, rfl⟩
            obtain ⟨NM, hNM⟩ : ∃ q, bs x.name = q := ⟨_, rfl⟩
            obtain ⟨TX, hTX⟩ : ∃ q, bs x.text = q := ⟨_, rfl⟩
            obtain ⟨SP, hSP⟩ : ∃ q, x.space = q := ⟨_, rfl⟩
            rw [hSG2] at SF SG SA HLN HAL4
            rw [hNM] at SF SG SA HLN HAL4 x2 HBX hW1'
            rw [hTX] at x4 HBX hW1'
            rw [hSP] at SF SG SA x1 HBX hW1' HSP1
            have HSGE := hid hSG2
            have HSPE := hid hSP
            clear hlp htl htk hspx hG hBP hB0 hbb hBX hbx hSt2 hK1 hsz1 hW1 lk al4 hfl hhd hspl X x_ HH hx r3 r4 r5 r6 r7 r8 hSG2 hNM hTX hSP
            have HW1 := hid hW1'
            clear hW1'
            go_wp2_with fail
            rw [HW1.out]
            have hfld := @run_fieldG
            go_region_held3 (fun w' => (w'.cell? ⟨b, 2, none⟩ = some (.map (some mb)) ∧ w'.cell? ⟨wr.heap.size, 1, none⟩ = some (.int .u8 SP) ∧ w'.cell? ⟨wr.heap.size, 2, none⟩ = some (.string NM)) ∧ (Instr.lookup 75 (.map (some mb)) (.int .u8 SP) false).run Try.prog w' = .ok (.agg #[.string SG2]) w') (first | with_reducible exact SZ.out | with_reducible exact SA.out | with_reducible exact SF.out | with_reducible exact SG.out)
              (first
                | (go_at_call 67; (with_reducible refine (HLN.out).mono ?_); rintro e w2 ⟨rfl, hS2, hK2⟩; have HS2 := hid hS2; have HK2 := hid ((KeptU.below HAL4.out).trans hK2); have BX2 := hid (HK2.out.blk HBX.out HNEB.out (by decide)); have SZ := hid (by obtain ⟨⟨p2, v2, hb2⟩, hg2, _⟩ := HS2.out; have lg := run_lookG hg2 SP HSP1.out; rw [← HSPE.out, HSGE.out, HSPE.out] at lg; exact (show (w2.cell? ⟨b, 2, none⟩ = some (.map (some mb)) ∧ w2.cell? ⟨wr.heap.size, 1, none⟩ = some (.int .u8 SP) ∧ w2.cell? ⟨wr.heap.size, 2, none⟩ = some (.string NM)) ∧ (Instr.lookup 75 (.map (some mb)) (.int .u8 SP) false).run Try.prog w2 = .ok (.agg #[.string SG2]) w2 from ⟨⟨hb2.blk.cell 2, BX2.out.cell 1, BX2.out.cell 2⟩, lg⟩)); clear hS2 hK2))
            have q3 := BX2.out.cell 3
            simp only [List.getElem?_toArray, List.getElem?_cons_zero, List.getElem?_cons_succ] at q3
            clear SF SG SA SZ HLN hfld HAL4 x0 x1 x2 x3 x4 x5
            obtain ⟨L0, hL0⟩ : ∃ L0, l ++ (ns.take k).flatMap (Dom.lineP (Dom.linesP d) (frontN deep)) ++ Dom.headP (frontN deep) x = L0 := ⟨_, rfl⟩
            rw [hL0] at HS2
            have HL0 := hid hL0
            have HLL := hid (show L0.length + (Dom.attsP (frontN deep) x.atts).length + (Dom.linesP d x.kids (frontN (deep + 1))).length ≤ 1000000000000 from by
              have h1 := HTL.out
              rw [← hL0]
              simp only [List.length_append] at h1 ⊢
              omega)
            clear hL0
            have hal := HATT.out.1
            have hanb : an ≤ 100000 := by have := HR.out.2.2.2.2.2; omega
            go_wp2
            go_loopg [37] an (fun gg iv wq => ∃ (j : Nat), j + gg = an ∧ iv = .int .i64 j ∧ Hid (StP w0 wq b mb (L0 ++ Dom.attsP (frontN deep) (x.atts.take j))) ∧ Hid (KeptU b w2 wq))
            case atStart => exact ⟨0, by omega, rfl, hid (by rw [List.take_zero]; show StP w0 w2 b mb (L0 ++ []); rw [List.append_nil]; exact HS2.out), hid (KeptU.refl _ _)⟩
            case round =>
              obtain ⟨j, hj, rfl, hI, hKq⟩ := hrel
              by_cases hlt2 : j < an
              · have d2 : decide (j < an) = true := decide_eq_true hlt2
                have hltI2 : (j : Int) < (an : Int) := by omega
                obtain ⟨y, hy⟩ : ∃ y, x.atts[j]? = some y := ⟨_, List.getElem?_eq_getElem (by omega)⟩
                obtain ⟨b2, o2, rfl, hau⟩ := HATT.out.2.resolve_left (by omega)
                obtain ⟨c0, c1⟩ := hau j y hy
                have c0' := cell_up c0 hI.out.2.2
                have c1' := cell_up c1 hI.out.2.2
                have hys := HR.out.1 y (List.mem_of_getElem? hy)
                have hap : Dom.attsP (frontN deep) (x.atts.take (j + 1)) = Dom.attsP (frontN deep) (x.atts.take j) ++ Dom.attP (frontN deep) y := by
                  rw [List.take_add_one, hy]
                  unfold Dom.attsP
                  simp
                have hle : (Dom.attsP (frontN deep) (x.atts.take j)).length ≤ (Dom.attsP (frontN deep) x.atts).length := by
                  have h1 : Dom.attsP (frontN deep) (x.atts.take j) ++ Dom.attsP (frontN deep) (x.atts.drop j) = Dom.attsP (frontN deep) x.atts := by
                    unfold Dom.attsP
                    rw [← List.flatMap_append, List.take_append_drop]
                  have h2 := congrArg List.length h1
                  rw [List.length_append] at h2
                  omega
                have hfl : ([y.1, [61, 34], y.2, [34]] : List (List UInt8)).flatten = y.1 ++ [61, 34] ++ y.2 ++ [34] := by simp
                have hat2 : frontN (deep + 1) ++ ([y.1, [61, 34], y.2, [34]] : List (List UInt8)).flatten ++ [10] = Dom.attP (frontN deep) y := by
                  rw [hfl]
                  unfold Dom.attP
                  show frontN deep ++ [32, 32] ++ _ ++ _ = _
                  simp only [List.append_assoc, List.cons_append, List.nil_append]
                have hLL := HLL.out
                have bl2 : Below wr.heap.size wr ((wr.alloc (.cells #[.string (bs y.1), .string (bs y.2)] 67)).alloc (.cells #[.string (bs y.1), .string ⟨#[61, 34]⟩, .string (bs y.2), .string ⟨#[34]⟩] 9)) := ((Below.refl _ wr).alloc (Nat.le_refl _) _).alloc (by simp) _
                have HLN := line_st (pb := wr.heap.size + 1) (k := 4) (deep + 1) [y.1, [61, 34], y.2, [34]] (hI.out.later bl2)
                  (by have q := BlkW.new (wr.alloc (.cells #[.string (bs y.1), .string (bs y.2)] 67)) #[.string (bs y.1), .string ⟨#[61, 34]⟩, .string (bs y.2), .string ⟨#[34]⟩] 9; rw [World.size_alloc] at q; exact q) rfl (by omega) (by omega)
                  (by rw [hfl]; simp only [List.length_append, List.length_cons, List.length_nil]; omega)
                  (L0 ++ Dom.attsP (frontN deep) (x.atts.take (j + 1))) (by rw [hap, List.append_assoc, List.append_assoc, ← List.append_assoc (frontN (deep + 1)), hat2, List.append_assoc])
                rw [show (((deep + 1 : Nat)) : Int) = (deep : Int) + 1 from by omega] at HLN
                have HLN := hid HLN
                have HKQ := hid (hKq.out.trans (KeptU.below bl2))
                have i1 : (0 : Int) ≤ (j : Int) := by omega
                have i3 : ((j : Int)).toNat = j := by omega
                obtain ⟨Y1, hY1⟩ : ∃ q, bs y.1 = q := ⟨_, rfl⟩
                obtain ⟨Y2, hY2⟩ : ∃ q, bs y.2 = q := ⟨_, rfl⟩
                rw [hY1] at HLN c0' HKQ
                rw [hY2] at HLN c1' HKQ
                clear hy hau c0 c1 hI hKq hys hap hle hfl hat2 hLL bl2 hY1 hY2
                go_wp2_with fail
                refine (HLN.out).mono ?_
                rintro e w4 ⟨rfl, hS4, hK4⟩
                have HS4 := hid hS4
                have HK4 := hid (HKQ.out.trans hK4)
                clear hS4 hK4
                go_wp2
                go_roundg (an - (j + 1))
                case measure => omega
                case rel => exact ⟨j + 1, by omega, by go_num, HS4, HK4⟩
              · have d2 : decide (j < an) = false := decide_eq_false hlt2
                have hltI2 : ¬ (j : Int) < (an : Int) := by omega
                have hI2 := hI.out
                rw [List.take_of_length_le (by omega)] at hI2
                have q5 := (hKq.out.blk BX2.out HNEB.out (by decide)).cell 5
                simp only [List.getElem?_toArray, List.getElem?_cons_zero, List.getElem?_cons_succ] at q5
                have hr5 := HR.out.2.2.1
                have hr6 := HR.out.2.2.2.1
                rw [frontN_len] at hr6
                have HND := HIH.out S x.kids ka kn kc (deep + 1) b mb (L0 ++ Dom.attsP (frontN deep) x.atts) w0 wr HKID.out HSPX.out hI2 hr5 (by omega) (by have := HLL.out; rw [List.length_append]; omega)
                rw [show (((deep + 1 : Nat)) : Int) = (deep : Int) + 1 from by omega] at HND
                have HND := hid HND
                have HKA := hid (HK1.out.trans (HK2.out.trans hKq.out))
                clear hI hI2 hKq hr5 hr6
                go_wp2_with fail
                refine (HND.out).mono ?_
                rintro e w5 ⟨rfl, hS5, hK5⟩
                have HS5 := hid (show StP w0 w5 b mb (l ++ (ns.take (k + 1)).flatMap (Dom.lineP (Dom.linesP d) (frontN deep))) from by
                  rw [HTK.out, ← List.append_assoc, ← List.append_assoc, ← List.append_assoc, HL0.out]
                  exact hS5)
                have HK5 := hid (HKA.out.trans hK5)
                clear hS5 hK5
                go_wp2
                go_roundg (n - (k + 1))
                case measure => omega
                case rel => exact ⟨k + 1, by omega, by go_num, HS5, HK5⟩
          · have hlp : Dom.lineP (Dom.linesP d) (frontN deep) x = [] := by
              unfold Dom.lineP
              rw [if_neg h2, if_neg h3', if_neg h1]
            rw [hlp, List.append_nil] at htk
            have HS2 := hid (show StP w0 (wr.alloc (.cells #[.int .u8 x.kind, .int .u8 x.space, .string (bs x.name), .slice aa an ac, .string (bs x.text), .slice ka kn kc] 32)) b mb (l ++ (ns.take (k + 1)).flatMap (Dom.lineP (Dom.linesP d) (frontN deep))) from by
              rw [htk]
              exact hSt.later ((Below.refl _ wr).alloc (Nat.le_refl _) _))
            have HK2 := hid (show KeptU b w (wr.alloc (.cells #[.int .u8 x.kind, .int .u8 x.space, .string (bs x.name), .slice aa an ac, .string (bs x.text), .slice ka kn kc] 32)) from hKp.out.trans (KeptU.below ((Below.refl _ wr).alloc (Nat.le_refl _) _)))
            have e1 : ((x.kind : Int) == 1) = false := by simp; omega
            have e2 : ((x.kind : Int) == 2) = false := by simp; omega
            have e3 : ((x.kind : Int) == 3) = false := by simp; omega
            generalize bs x.name = NM at *
            generalize bs x.text = TX at *
            generalize x.space = SP at *
            generalize x.kind = KD at *
            clear hSt hlp htl htk X x_ HH h1 h2 h3'
            go_wp2
            go_roundg (n - (k + 1))
            case measure => omega
            case rel => exact ⟨k + 1, by omega, by go_num, HS2, HK2⟩
    · have d1 : decide (k < n) = false := decide_eq_false hlt
      have hltI : ¬ (k : Int) < (n : Int) := by omega
      have hI2 := hI.out
      rw [List.take_of_length_le (by have := HLN0.out; omega)] at hI2
      have HS2 := hid hI2
      clear hI hI2
      go_wp2
      refine bodyPost_end (v := .tuple #[]) (by simp [results, Try.results59, go_sem]) rfl ?_
      exact ⟨rfl, HS2.out, hKp.out⟩
theorem pnodes_any : ∀ d, PNodesC d
  | 0 => pnodes_zero
  | d + 1 => pnodes_succ d (pnodes_any d)
set_option maxHeartbeats 4000000 in
/-- Print. -/
theorem pprint_any (d : Nat) (S : Nat → Prop) (ns : List Dom.N) (a : Option Addr) (n c : Nat) (w : World) (h : IsN S d w a n ns) (hsp : spL d ns) (hw : Dom.sumW d ns ≤ 100000) :
    Calls Try.prog 29 #[.slice a n c] w fun e w' => e = .returned (.string (bs (Dom.linesP d ns []))) ∧ Below w.heap.size w w' := by
  have HSPA := hid (spaces_any w)
  have HND := hid fun (b mb : Nat) (W : World) (hS : StP w W b mb []) => pnodes_any d S ns a n c 0 b mb [] w W h hsp hS hw (by omega) (by
    have h1 := Dom.linesP_len d ns (frontN 0) (Dom.sumW d ns) (Nat.le_refl _)
    have h2 := Nat.mul_le_mul hw (show (frontN 0).length + 2 * Dom.sumW d ns + 40 ≤ 400000 by show 0 + _ + 40 ≤ _; omega)
    rw [List.length_nil]
    omega)
  rw [show frontN 0 = [] from rfl, show (((0 : Nat)) : Int) = 0 from rfl] at HND
  simp only [List.nil_append] at HND
  generalize Dom.linesP d ns [] = LL at *
  clear h hsp hw
  go_enter Try.func29, Try.ntmps29
  go_wp2_with fail
  refine (HSPA.out).mono ?_
  rintro e w1 ⟨rfl, hg, b1⟩
  have P1 := BlkW.new w1 #[.pointer none, .slice none 0 0, .map (some w.heap.size)] 81
  have al : Below w1.heap.size w1 (w1.alloc (.cells #[.pointer none, .slice none 0 0, .map (some w.heap.size)] 81)) := (Below.refl _ w1).alloc (Nat.le_refl _) _
  have hS1 : StP w (w1.alloc (.cells #[.pointer none, .slice none 0 0, .map (some w.heap.size)] 81)) w1.heap.size w.heap.size [] :=
    ⟨⟨_, _, ⟨b1.size, P1, .inl rfl, World.ownsRow_nil _ _ _ _, fun _ => rfl⟩⟩, hg.keep (al.block _ (World.ownsMap.lt hg)) al.size, b1.trans (al.mono b1.size)⟩
  have HN1 := hid (HND.out _ _ _ hS1)
  clear hg b1 P1 al hS1
  go_wp2_with fail
  refine (HN1.out).mono ?_
  rintro e w2 ⟨rfl, ⟨⟨p2, v2, hB2⟩, _, hb2⟩, _⟩
  have HST := hid (pstr_any w2 hB2)
  have HB2 := hid hb2
  clear hB2 hb2
  go_wp2_with fail
  refine (HST.out).mono ?_
  rintro e w3 ⟨rfl, b3⟩
  have HB3 := hid (HB2.out.trans b3)
  clear b3
  go_wp2
  go_ret
  exact ⟨rfl, HB3.out⟩
end Go.Proofs.Ythbklcpjbeelhaa
