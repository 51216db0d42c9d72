/- The walk of the statement OpenOrder. -/
import Derived.Test.YtolbohmalgklmaaFrameO
import Derived.Test.YtolbohmalgklmaaOpenBe
import Derived.Test.YtolbohmalgklmaaOpenBk
namespace Go.Proofs.Ytolbohmalgklmaa.openOrder
open Go.ChangeShapes Go.WideShapes Go.ChangeAt Go.RowKit Go.Lib
open Go.ChangeMaps (open_string shut_string)
set_option maxRecDepth 100000
set_option linter.unusedVariables false

set_option maxHeartbeats 32000000 in
theorem walk (w : World) (hT : AnyW w) (a : Option Addr) (len cap : Nat) (l : List Opn.E) (h : IsE w a len l) (hf : ∀ x ∈ l, eFits x) (h1 : len ≤ cap) (h2 : cap ≤ 9223372036854775807) (h3 : a = none → cap = 0)
    (x : Int) (wx : (Lit.int .u8 x).wf = true) (b : Option Addr) (bn bc : Nat) (ns : List (List UInt8)) (g : IsS w b bn ns) (gf : ∀ s ∈ ns, s.length ≤ 9223372036854775807) (g1 : bn ≤ bc) (g2 : bc ≤ 9223372036854775807) (g3 : b = none → bc = 0)
    (q : Option Addr) (qn qc : Nat) (zs : List Int) (hz : IsI w q qn zs) (z1 : qn ≤ qc) (z2 : qc ≤ 9223372036854775807) (z3 : q = none → qc = 0) :
    Calls Try.prog 7 #[.slice a len cap, .int .u8 x, .slice b bn bc, .slice q qn qc] w fun e w' => e = .returned (.bool true) ∧ Below w.heap.size w w' := by
  obtain ⟨sc, rfl, hsc⟩ := byte_of wx
  have HM := hid (much_any a len cap l b bn bc ns w h hf g gf h1 h2 g1 g2)
  have HE := hid fun (hl : len ≤ 3000) => elems_in h hf h1 h2 hl
  have HG := hid fun (hb : bn ≤ 100) => names_in g g1 g2 hb
  have HZ := hid hz
  clear h hf h1 h2 h3 g gf g1 g2 g3 hT wx hz z3
  go_enter Try.func7, Try.ntmps7
  go_wp2_with fail
  refine HM.out.mono ?_
  rintro e w2 ⟨rfl, c, rfl, hc⟩
  clear HM
  cases c with
  | true =>
    clear hc
    go_wp2_with fail
    refine (known_any w).mono ?_
    rintro e w3 ⟨rfl, b3⟩
    have B3 := hid b3
    clear b3
    go_wp2
    go_ret
    exact ⟨rfl, B3.out⟩
  | false =>
    obtain ⟨hl, hbn⟩ := hc rfl
    have E := hid (HE.out hl)
    have N := hid (HG.out hbn)
    clear hc HE HG
    by_cases hm : qn ≤ 3000
    · have d1 : decide ((3000 : Int) < (qn : Int)) = false := decide_eq_false (by omega)
      have hgt : ¬ (3000 : Int) < (qn : Int) := by omega
      go_wp2_with fail
      refine (known_any w).mono ?_
      rintro e w3 ⟨rfl, b3⟩
      have B3 := hid b3
      have hs3 := b3.size
      clear b3
      go_wp2
      clear d1 hgt
      go_loopw [9, 10] (fun v vi wr => ∃ k : Nat, vi = .int .i64 ((k : Int) - 1) ∧ k ≤ bn ∧ wr.ownsRow w3.heap.size 9 1 v ((ns.drop k).reverse).length (strsL (ns.drop k).reverse) ∧ Below w3.heap.size w3 wr) (fun _ vi _ => dnM vi)
      case atStart =>
        have hnl : ns.length = bn := N.out.isS.1
        exact ⟨bn, by go_num, Nat.le_refl _, by rw [List.drop_of_length_le (by omega)]; exact World.ownsRow_nil _ _ _ _, Below.refl _ _⟩
      case round =>
        obtain ⟨kk, rfl, hkk, hown, hb⟩ := hrel
        have hnl : ns.length = bn := N.out.isS.1
        by_cases h0 : kk = 0
        · subst h0
          obtain ⟨ba, bcp, rfl, hBS, hbc1, hbc2⟩ := own_isS hown
          have hb0 : ((ns.drop 0).reverse).length = bn := by rw [back_len hnl 0]; rfl
          rw [hb0] at hBS hbc1 ⊢
          rw [List.drop_zero] at hBS
          obtain ⟨w4, hw4⟩ : ∃ w4, wr = w4 := ⟨_, rfl⟩
          rw [hw4] at hBS hb ⊢
          have NB := hid (show NamesIn ba bn bcp ns.reverse w4 from ⟨hBS, by omega, hbc1, by unfold maxLen at hbc2; omega⟩)
          have B4 := hid (B3.out.trans (hb.mono B3.out.size))
          have hs4 := B4.out.size
          have kz : ((0 : Nat) : Int) - 1 = -1 := rfl
          rw [kz]
          clear hown hb hBS hbc1 hbc2 hw4
          go_wp2
          go_loopw [11, 12] (fun v vi wr => ∃ k : Nat, vi = .int .i64 k ∧ k ≤ len ∧ wr.ownsRow w4.heap.size 37 4 v (turnK l zs k).length (eL (turnK l zs k)) ∧ Below w4.heap.size w4 wr) (fun _ vi _ => len - (RowKit.intOf vi).toNat)
          case atStart => exact ⟨0, rfl, Nat.zero_le _, World.ownsRow_nil _ _ _ _, Below.refl _ _⟩
          case round =>
            obtain ⟨k, rfl, hk, hown, hb⟩ := hrel
            have hln := turnK_len l zs k
            by_cases hlt : k < len
            · have d1 : decide (k < len) = true := decide_eq_true hlt
              have hltI : (k : Int) < (len : Int) := by omega
              have hbs := hb.size
              obtain ⟨hll, z0 | ⟨blk, off, rfl, hat⟩⟩ := (E.out.below (B4.out.trans (hb.mono B4.out.size))).isE
              · omega
              obtain ⟨y, hy⟩ : ∃ y, l[k]? = some y := ⟨_, List.getElem?_eq_getElem (by omega)⟩
              obtain ⟨c0, c1, c2, c3⟩ := hat k y hy
              by_cases hq : k < qn
              · have d2 : decide (k < qn) = true := decide_eq_true hq
                have hqI : (k : Int) < (qn : Int) := by omega
                obtain ⟨hzl, z0 | ⟨qb, qo, rfl, hzt⟩⟩ := HZ.out.below (B4.out.trans (hb.mono B4.out.size))
                · omega
                obtain ⟨z, hz⟩ : ∃ z, zs[k]? = some z := ⟨_, List.getElem?_eq_getElem (by omega)⟩
                have q0 := hzt k z hz
                have q1 := cell_up q0 ((Below.refl wr.heap.size wr).alloc (Nat.le_refl _) (.cells #[.int .i64 y.id, .int .u8 y.space, .string (bs y.name), .int .u8 y.point] 37))
                have q2 := cell_up q0 ((Below.refl wr.heap.size wr).alloc (Nat.le_refl _) (.cells #[.int .i64 z, .int .u8 y.space, .string (bs y.name), .int .u8 y.point] 37))
                have e256 : (((z % 256).toNat : Nat) : Int) = z % 256 := by omega
                have HE256 := hid e256
                clear e256
                clear hat hzt
                have hgd : l.getD k ⟨0, 0, [], 0⟩ = y := by rw [List.getD_eq_getElem?_getD, hy]; rfl
                have HK := hid (show turnK l zs (k + 1) = turnK l zs k ++ [⟨z, y.space, y.name, (z % 256).toNat⟩] by rw [turnK, hgd, hz]; rfl)
                have HA1 := hid ((Below.refl wr.heap.size wr).alloc (Nat.le_refl _) (.cells #[.int .i64 z, .int .u8 y.space, .string (bs y.name), .int .u8 (z % 256)] 37))
                have HA2 := hid (HA1.out.alloc HA1.out.size (.cells #[.int .i64 z, .int .u8 y.space, .string (bs y.name), .int .u8 (z % 256)] 37))
                have HBB := hid (hb.trans (HA2.out.mono hb.size))
                have HOW := hid (own_below hown HA2.out)
                have hnw := BlkW.new (wr.alloc (.cells #[.int .i64 z, .int .u8 y.space, .string (bs y.name), .int .u8 (z % 256)] 37)) #[.int .i64 z, .int .u8 y.space, .string (bs y.name), .int .u8 (z % 256)] 37
                rw [World.size_alloc] at hnw
                have HNW := hid hnw
                clear hown hb hy hgd hnw hz
                go_wp2_with (at_builtin; refine append_e rfl _ _ rfl w4.heap.size _ (turnK l zs k) rfl HOW.out (wr.heap.size + 1) _ ⟨z, y.space, y.name, (z % 256).toNat⟩ rfl (by rw [HE256.out]; exact HNW.out) (by omega) (by simp; omega) ?_)
                intro v' w' o1 g1
                have BB := hid (HBB.out.grown g1 (by simp; omega) (own_ge HOW.out))
                rw [← HK.out] at o1
                have HO1 := hid o1
                clear o1 g1 HOW HNW HBB HK HA1 HA2
                go_wp2
                go_roundw
                case rel => exact ⟨k + 1, by go_num, by omega, row_len (turnK_len l zs (k + 1)) HO1.out, BB.out⟩
                case measure => simp [RowKit.intOf]; omega
              · have d2 : decide (k < qn) = false := decide_eq_false hq
                have hqI : ¬ (k : Int) < (qn : Int) := by omega
                have hz : zs[k]? = none := List.getElem?_eq_none (by rw [HZ.out.1]; omega)
                clear hat
                have hgd : l.getD k ⟨0, 0, [], 0⟩ = y := by rw [List.getD_eq_getElem?_getD, hy]; rfl
                have HK := hid (show turnK l zs (k + 1) = turnK l zs k ++ [y] by rw [turnK, hgd, hz]; rfl)
                have HA1 := hid ((Below.refl wr.heap.size wr).alloc (Nat.le_refl _) (.cells #[.int .i64 y.id, .int .u8 y.space, .string (bs y.name), .int .u8 y.point] 37))
                have HA2 := hid (HA1.out.alloc HA1.out.size (.cells #[.int .i64 y.id, .int .u8 y.space, .string (bs y.name), .int .u8 y.point] 37))
                have HBB := hid (hb.trans (HA2.out.mono hb.size))
                have HOW := hid (own_below hown HA2.out)
                have hnw := BlkW.new (wr.alloc (.cells #[.int .i64 y.id, .int .u8 y.space, .string (bs y.name), .int .u8 y.point] 37)) #[.int .i64 y.id, .int .u8 y.space, .string (bs y.name), .int .u8 y.point] 37
                rw [World.size_alloc] at hnw
                have HNW := hid hnw
                clear hown hb hy hgd hnw hz
                go_wp2_with (at_builtin; refine append_e rfl _ _ rfl w4.heap.size _ (turnK l zs k) rfl HOW.out (wr.heap.size + 1) _ y rfl HNW.out (by omega) (by simp; omega) ?_)
                intro v' w' o1 g1
                have BB := hid (HBB.out.grown g1 (by simp; omega) (own_ge HOW.out))
                rw [← HK.out] at o1
                have HO1 := hid o1
                clear o1 g1 HOW HNW HBB HK HA1 HA2
                go_wp2
                go_roundw
                case rel => exact ⟨k + 1, by go_num, by omega, row_len (turnK_len l zs (k + 1)) HO1.out, BB.out⟩
                case measure => simp [RowKit.intOf]; omega
            · have d1 : decide (k < len) = false := decide_eq_false hlt
              have hltI : ¬ (k : Int) < (len : Int) := by omega
              obtain rfl : k = len := by omega
              obtain ⟨ma, mcp, rfl, hMS, hmc1, hmc2⟩ := own_isE hown
              rw [hln] at hMS hmc1 ⊢
              have hll : l.length = k := E.out.isE.1
              have EB := hid (show ElemsIn ma k mcp (turnK l zs k) wr from ⟨hMS, by omega, hmc1, by unfold maxLen at hmc2; omega, turnK_sp l zs hll E.out.sp⟩)
              have NB2 := hid (NB.out.below hb)
              have B5 := hid (B4.out.trans (hb.mono B4.out.size))
              have LK := turnK_like l zs hll
              have MS : ∀ s, s ∈ ns.reverse ↔ s ∈ ns := fun s => List.mem_reverse
              have r1 := Opn.inB_back LK sc MS k
              have r2 := Opn.untilI_back LK MS k
              have r3 := Opn.clearN_back LK MS k
              have r4 := Opn.itemI_back LK MS k
              have r5 := Opn.impliedN_back LK [112] k
              clear hown hb hMS hmc1 hmc2 LK MS NB HZ
              have C0 := hid (Below.refl wr.heap.size wr)
              have E0 := hid (E.out.below B5.out)
              have N0 := hid (N.out.below B5.out)
              go_wp2_with fail
              refine (pin_any a k cap l sc b bn bc ns wr (E0.out.below C0.out) (N0.out.below C0.out) hsc).mono ?_
              rintro e y1 ⟨rfl, bx⟩
              have C1 := hid (C0.out.trans (bx.mono C0.out.size))
              clear bx
              go_wp2_with fail
              refine (pin_any ma k mcp (turnK l zs k) sc ba bn bcp ns.reverse y1 (EB.out.below C1.out) (NB2.out.below C1.out) hsc).mono ?_
              rintro e y2 ⟨rfl, bx⟩
              have C2 := hid (C1.out.trans (bx.mono C1.out.size))
              clear bx
              rw [r1]
              generalize Opn.inB l sc ns k = R1 at *
              have t1 : (R1 == R1) = true := by simp
              go_wp2_with fail
              refine (puntil_any a k cap l b bn bc ns y2 (E0.out.below C2.out) (N0.out.below C2.out)).mono ?_
              rintro e y3 ⟨rfl, bx⟩
              have C3 := hid (C2.out.trans (bx.mono C2.out.size))
              clear bx
              go_wp2_with fail
              refine (puntil_any ma k mcp (turnK l zs k) ba bn bcp ns.reverse y3 (EB.out.below C3.out) (NB2.out.below C3.out)).mono ?_
              rintro e y4 ⟨rfl, bx⟩
              have C4 := hid (C3.out.trans (bx.mono C3.out.size))
              clear bx
              rw [r2]
              generalize Opn.untilI l ns k = R2 at *
              have t2 : (R2 == R2) = true := by simp
              go_wp2_with fail
              refine (pclear_any a k cap l b bn bc ns y4 (E0.out.below C4.out) (N0.out.below C4.out)).mono ?_
              rintro e y5 ⟨rfl, bx⟩
              have C5 := hid (C4.out.trans (bx.mono C4.out.size))
              clear bx
              go_wp2_with fail
              refine (pclear_any ma k mcp (turnK l zs k) ba bn bcp ns.reverse y5 (EB.out.below C5.out) (NB2.out.below C5.out)).mono ?_
              rintro e y6 ⟨rfl, bx⟩
              have C6 := hid (C5.out.trans (bx.mono C5.out.size))
              clear bx
              rw [r3]
              generalize Opn.clearN l ns k = R3 at *
              have t3 : ((R3 : Int) == (R3 : Int)) = true := by simp
              go_wp2_with fail
              refine (pitem_any a k cap l b bn bc ns y6 (E0.out.below C6.out) (N0.out.below C6.out)).mono ?_
              rintro e y7 ⟨rfl, bx⟩
              have C7 := hid (C6.out.trans (bx.mono C6.out.size))
              clear bx
              go_wp2_with fail
              refine (pitem_any ma k mcp (turnK l zs k) ba bn bcp ns.reverse y7 (EB.out.below C7.out) (NB2.out.below C7.out)).mono ?_
              rintro e y8 ⟨rfl, bx⟩
              have C8 := hid (C7.out.trans (bx.mono C7.out.size))
              clear bx
              rw [r4]
              generalize Opn.itemI l ns k = R4 at *
              have t4 : (R4 == R4) = true := by simp
              go_wp2_with fail
              refine (pimplied_any a k cap l [112] y8 (E0.out.below C8.out)).mono ?_
              rintro e y9 ⟨rfl, bx⟩
              have C9 := hid (C8.out.trans (bx.mono C8.out.size))
              clear bx
              go_wp2_with fail
              refine (pimplied_any ma k mcp (turnK l zs k) [112] y9 (EB.out.below C9.out)).mono ?_
              rintro e y10 ⟨rfl, bx⟩
              have C10 := hid (C9.out.trans (bx.mono C9.out.size))
              clear bx
              rw [r5]
              generalize Opn.impliedN l [112] k = R5 at *
              have t5 : ((R5 : Int) == (R5 : Int)) = true := by simp
              go_wp2
              go_ret
              exact ⟨ret_bool' (by simp), B5.out.trans (C10.out.mono B5.out.size)⟩
        · obtain ⟨k, rfl⟩ : ∃ k, kk = k + 1 := ⟨kk - 1, by omega⟩
          have d0 : decide ((0 : Int) ≤ (k : Int)) = true := decide_eq_true (by omega)
          have kk1 : ((k + 1 : Nat) : Int) - 1 = (k : Int) := by omega
          rw [kk1]
          obtain ⟨hll, z0 | ⟨blk, off, rfl, hat⟩⟩ := (N.out.below (B3.out.trans (hb.mono B3.out.size))).isS
          · omega
          obtain ⟨y, hy⟩ : ∃ y, ns[k]? = some y := ⟨_, List.getElem?_eq_getElem (by omega)⟩
          have hcell : wr.cell? ⟨blk, off + k, none⟩ = some (.string (bs y)) := hat k y hy
          have hkl : (k : Int) < (bn : Int) := by omega
          have HN := hid (isS_of_block (ls := [y]) (n := 1) rfl (heap_alloc_new wr (.cells #[.string (bs y)] 9)) rfl)
          have HO := hid (hown.alloc (.cells #[.string (bs y)] 9))
          have hbl := back_len hnl (k + 1)
          have hbs := hb.size
          have HS := hid (back_step hy)
          have HB := hid (hb.alloc hb.size (.cells #[.string (bs y)] 9))
          clear hat hy hown hb
          go_wp2_with (at_builtin; refine append_strs rfl _ _ rfl w3.heap.size _ (ns.drop (k + 1)).reverse rfl HO.out wr.heap.size 0 1 1 [y] rfl HN.out (by omega) (by simp; omega) ?_)
          intro v' w' o1 g1
          have BB := hid (HB.out.grown g1 (by simp; omega) (own_ge HO.out))
          rw [← HS.out] at o1
          have HO1 := hid o1
          clear o1 g1 HO HN HB HS
          go_wp2
          go_roundw
          case rel => exact ⟨k, by go_num, by omega, by rw [back_len hnl k, show bn - k = bn - (k + 1) + 1 by omega]; exact HO1.out, BB.out⟩
          case measure => simp [dnM]
    · have d1 : decide ((3000 : Int) < (qn : Int)) = true := decide_eq_true (by omega)
      have hgt : (3000 : Int) < (qn : Int) := by omega
      go_wp2_with fail
      refine (known_any w).mono ?_
      rintro e w3 ⟨rfl, b3⟩
      have B3 := hid b3
      clear b3
      go_wp2
      go_ret
      exact ⟨rfl, B3.out⟩
end Go.Proofs.Ytolbohmalgklmaa.openOrder
