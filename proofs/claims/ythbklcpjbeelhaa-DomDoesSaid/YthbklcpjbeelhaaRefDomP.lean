/- Walks over the reference of layer 10: nodes, a line each. Written by tools/gen_refdomp.py. -/
import Derived.Test.YthbklcpjbeelhaaNodeArg
import Derived.Test.YthbklcpjbeelhaaAppT
import Derived.Test.YthbklcpjbeelhaaWld
import Derived.Deep.LoopGhost
import Derived.IntWalk
namespace Go.Proofs.Ythbklcpjbeelhaa
open Go.RowKit Go.Lib
set_option maxRecDepth 100000
set_option linter.unusedVariables false

theorem dp_cat (a b : List UInt8) : bs a ++ bs b = bs (a ++ b) := by
  apply ByteArray.ext
  rw [ByteArray.data_append]
  apply Array.ext'
  rw [Array.toList_append]
  rfl
theorem dp_size (l : List UInt8) : (bs l).size = l.length := by rw [size_eq]; rfl
/-- What 'lines' is known to tell. -/
def RLinesC (d : Nat) : Prop := ∀ (S : Nat → Prop) (ns : List Dom.N) (a : Option Addr) (n c : Nat) (F : List UInt8) (w : World), IsN S d w a n ns → Dom.sumW d ns ≤ 100000 → F.length + 2 * Dom.sumW d ns ≤ 300000 →
  Calls Try.prog 61 #[.slice a n c, .string (bs F)] w fun e w' => e = .returned (.string (bs (Dom.linesP d ns F))) ∧ Below w.heap.size w w'
set_option maxHeartbeats 8000000 in
theorem rlines_zero : RLinesC 0 := by
  intro S ns a n c F w h hw hF
  obtain ⟨rfl, rfl⟩ := h
  have hR : bs (Dom.linesP 0 [] F) = ⟨#[]⟩ := rfl
  rw [hR]
  clear hw hF hR
  generalize bs F = FF
  go_enter Try.func61, Try.ntmps61
  go_wp2
  go_loopg [5, 6] 0 (fun g ov iv wr => iv = .int .i64 0 ∧ ov = .string ⟨#[]⟩ ∧ wr = w)
  case atStart => exact ⟨rfl, rfl, rfl⟩
  case round =>
    obtain ⟨rfl, rfl, rfl⟩ := hrel
    go_wp2
    go_ret
    exact ⟨rfl, Below.refl _ _⟩
/-- All that is asked of the sizes in a round: what is written so far, the front, and this node. -/
theorem dp_room {d : Nat} {ns : List Dom.N} {F : List UInt8} {x : Dom.N} (hw : Dom.sumW (d + 1) ns ≤ 100000) (hF : F.length + 2 * Dom.sumW (d + 1) ns ≤ 300000) (hx : x ∈ ns) :
    x.text.length ≤ 900000 ∧ x.name.length ≤ 900000 ∧ (∀ p ∈ x.atts, p.1.length ≤ 900000 ∧ p.2.length ≤ 900000) ∧ (Dom.attsP F x.atts).length ≤ 90000000000 ∧ Dom.sumW d x.kids ≤ 100000 ∧ F.length + 2 + 2 * Dom.sumW d x.kids ≤ 300000 ∧ (Dom.linesP d x.kids (F ++ [32, 32])).length ≤ 90000000000 ∧ x.atts.length ≤ 100000 := by
  have h1 := Dom.sumW_mem (d := d) hx
  have h2 := Dom.attsP_len F 400000 (by omega) x.atts
  have h3 := Dom.linesP_len d x.kids (F ++ [32, 32]) (Dom.sumW d x.kids) (Nat.le_refl _)
  have h4 : Dom.sumA x.atts ≤ 100000 := by omega
  have h5 : Dom.sumW d x.kids ≤ 100000 := by omega
  have h6 := Nat.mul_le_mul h4 (Nat.le_refl 400000)
  have h7 : (F ++ [32, 32]).length + 2 * Dom.sumW d x.kids + 40 ≤ 400000 := by rw [List.length_append]; simp only [List.length_cons, List.length_nil]; omega
  have h8 := Nat.mul_le_mul h5 h7
  have h9 := Dom.sumA_len x.atts
  exact ⟨by omega, by omega, fun p hp => by have := Dom.sumA_mem hp; omega, by omega, h5, by omega, by omega, by omega⟩
theorem dp_take {d : Nat} {ns : List Dom.N} {F : List UInt8} (hw : Dom.sumW (d + 1) ns ≤ 100000) (hF : F.length + 2 * Dom.sumW (d + 1) ns ≤ 300000) (k : Nat) : ((ns.take k).flatMap (Dom.lineP (Dom.linesP d) F)).length ≤ 90000000000 := by
  have h1 := Dom.linesP_len (d + 1) ns F (Dom.sumW (d + 1) ns) (Nat.le_refl _)
  have h2 : (Dom.linesP (d + 1) ns F).length = ((ns.take k).flatMap (Dom.lineP (Dom.linesP d) F)).length + ((ns.drop k).flatMap (Dom.lineP (Dom.linesP d) F)).length := by
    rw [← List.length_append, ← List.flatMap_append, List.take_append_drop]
    rfl
  have h3 := Nat.mul_le_mul hw (show F.length + 2 * Dom.sumW (d + 1) ns + 40 ≤ 400000 by omega)
  omega
theorem space_head (F : List UInt8) (x : Dom.N) : (Dom.headP F x).length ≤ F.length + x.name.length + 8 := by
  have := Dom.space_len x.space
  unfold Dom.headP
  simp only [List.length_append, List.length_cons, List.length_nil]
  omega
set_option maxHeartbeats 16000000 in
theorem rlines_succ (d : Nat) (IH : RLinesC d) : RLinesC (d + 1) := by
  intro S ns a n c F w h hw hF
  have HH := hid h
  have HIH := hid IH
  have HLN := hid h.len
  have hn : n ≤ 100000 := by have := Dom.sumW_len d ns; have := h.len; omega
  have HRMA := hid fun x (hx : x ∈ ns) => dp_room hw hF hx
  have HTA := hid (dp_take hw hF)
  obtain ⟨FF, hFF⟩ : ∃ FF, bs F = FF := ⟨_, rfl⟩
  have hFs : FF.size ≤ 300000 := by rw [← hFF, dp_size]; omega
  have HFL := hid (show F.length ≤ 300000 by omega)
  have HFF := hid hFF
  rw [hFF]
  obtain ⟨R, hR⟩ : ∃ R, bs (Dom.linesP (d + 1) ns F) = R := ⟨_, rfl⟩
  rw [hR]
  have HR := hid hR
  clear h IH hw hF hFF hR
  go_enter Try.func61, Try.ntmps61
  go_wp2
  go_loopg [5, 6] n (fun g ov iv wr => ∃ (k : Nat) (O : ByteArray), k + g = n ∧ iv = .int .i64 k ∧ ov = .string O ∧ Hid (O = bs ((ns.take k).flatMap (Dom.lineP (Dom.linesP d) F))) ∧ Hid (Below w.heap.size w wr))
  case atStart => exact ⟨0, ⟨#[]⟩, by omega, rfl, rfl, hid rfl, hid (Below.refl _ _)⟩
  case round =>
    obtain ⟨k, O, hk, rfl, rfl, hO, hB⟩ := hrel
    by_cases hlt : k < n
    · have d1 : decide (k < n) = true := decide_eq_true hlt
      have hltI : (k : Int) < (n : Int) := by omega
      obtain ⟨x, hx⟩ : ∃ x, ns[k]? = some x := ⟨_, List.getElem?_eq_getElem (by have := HLN.out; omega)⟩
      have HRM := hid (HRMA.out x (List.mem_of_getElem? hx))
      have HTK : Hid (ns.take (k + 1) = ns.take k ++ [x]) := hid (by rw [List.take_add_one, hx]; rfl)
      have HTL := hid (HTA.out k)
      have hOs : O.size ≤ 90000000000 := by rw [hO.out, dp_size]; exact HTL.out
      obtain ⟨b1, o1, rfl, _, hat⟩ := (HH.out.below hB.out).at (by omega)
      obtain ⟨aa, an, ac, ka, kn, kc, X⟩ := hat k x hx
      have x0 := X.c0
      have x1 := X.c1
      have x2 := X.c2
      have x3 := X.c3
      have x4 := X.c4
      have x5 := X.c5
      obtain ⟨NM, hNM⟩ : ∃ NM, bs x.name = NM := ⟨_, rfl⟩
      obtain ⟨TX, hTX⟩ : ∃ TX, bs x.text = TX := ⟨_, rfl⟩
      have hNs : NM.size ≤ 900000 := by rw [← hNM, dp_size]; exact HRM.out.2.1
      have hTs : TX.size ≤ 900000 := by rw [← hTX, dp_size]; exact HRM.out.1
      rw [hNM] at x2
      rw [hTX] at x4
      have HBn := hid (hB.out.trans (((Below.refl wr.heap.size wr).alloc (Nat.le_refl _) (.cells #[.int .u8 x.kind, .int .u8 x.space, .string NM, .slice aa an ac, .string TX, .slice ka kn kc] 32)).mono hB.out.size))
      clear hat
      by_cases hk2 : x.kind = 2
      · have e2 : ((x.kind : Int) == 2) = true := by simp; omega
        have e3 : ((x.kind : Int) == 3) = false := by simp; omega
        have HN : Hid (O ++ FF ++ ⟨#[34]⟩ ++ TX ++ ⟨#[34, 10]⟩ = bs ((ns.take (k + 1)).flatMap (Dom.lineP (Dom.linesP d) F))) := hid (by
          rw [HTK.out, hO.out, ← HFF.out, ← hTX, show (⟨#[34]⟩ : ByteArray) = bs [34] from rfl, show (⟨#[34, 10]⟩ : ByteArray) = bs [34, 10] from rfl, dp_cat, dp_cat, dp_cat, dp_cat, List.flatMap_append]
          congr 1
          rw [List.flatMap_cons, List.flatMap_nil, List.append_nil]
          unfold Dom.lineP
          rw [if_pos (by omega)]
          simp only [List.append_assoc])
        have m1 : ¬ 9223372036854775807 < O.size + FF.size := by omega
        have m2 : ¬ 9223372036854775807 < O.size + FF.size + 1 := by omega
        have m3 : ¬ 9223372036854775807 < O.size + FF.size + 1 + TX.size := by omega
        have m4 : ¬ 9223372036854775807 < O.size + FF.size + 1 + TX.size + 2 := by omega
        have hkI : ((x.kind : Nat) : Int) = 2 := by omega
        rw [hkI] at x0 HBn
        clear hO hTX hNM hx
        go_wp2
        go_roundg (n - (k + 1))
        case measure => omega
        case rel => exact ⟨k + 1, _, by omega, by go_num, rfl, HN, HBn⟩
      by_cases hk3 : x.kind = 3
      · have e2 : ((x.kind : Int) == 2) = false := by simp; omega
        have e3 : ((x.kind : Int) == 3) = true := by simp; omega
        have HN : Hid (O ++ FF ++ ⟨#[60, 33, 45, 45, 32]⟩ ++ TX ++ ⟨#[32, 45, 45, 62, 10]⟩ = bs ((ns.take (k + 1)).flatMap (Dom.lineP (Dom.linesP d) F))) := hid (by
          rw [HTK.out, hO.out, ← HFF.out, ← hTX, show (⟨#[60, 33, 45, 45, 32]⟩ : ByteArray) = bs [60, 33, 45, 45, 32] from rfl, show (⟨#[32, 45, 45, 62, 10]⟩ : ByteArray) = bs [32, 45, 45, 62, 10] from rfl, dp_cat, dp_cat, dp_cat, dp_cat, List.flatMap_append]
          congr 1
          rw [List.flatMap_cons, List.flatMap_nil, List.append_nil]
          unfold Dom.lineP
          rw [if_neg (by omega), if_pos (by omega)]
          simp only [List.append_assoc])
        have m1 : ¬ 9223372036854775807 < O.size + FF.size := by omega
        have m2 : ¬ 9223372036854775807 < O.size + FF.size + 5 := by omega
        have m3 : ¬ 9223372036854775807 < O.size + FF.size + 5 + TX.size := by omega
        have m4 : ¬ 9223372036854775807 < O.size + FF.size + 5 + TX.size + 5 := by omega
        have hkI : ((x.kind : Nat) : Int) = 3 := by omega
        rw [hkI] at x0 HBn
        clear hO hTX hNM hx
        go_wp2
        go_roundg (n - (k + 1))
        case measure => omega
        case rel => exact ⟨k + 1, _, by omega, by go_num, rfl, HN, HBn⟩
      by_cases hk1 : x.kind = 1
      · by_cases h1s : x.space = 1
        · skip
          have hkI : ((x.kind : Nat) : Int) = 1 := by omega
          have hsI : ((x.space : Nat) : Int) = 1 := by omega
          have e1 : ((x.kind : Int) == 1) = true := by simp; omega
          have e2 : ((x.kind : Int) == 2) = false := by simp; omega
          have e3 : ((x.kind : Int) == 3) = false := by simp; omega
          have u1 : ((x.space : Int) == 1) = true := by simp; omega
          have u2 : ((x.space : Int) == 2) = false := by simp; omega
          have hsp : Dom.spaceP x.space = [115, 118, 103, 32] := by unfold Dom.spaceP; rw [if_pos h1s]
          have hHD : O ++ FF ++ ⟨#[60]⟩ ++ ⟨#[115, 118, 103, 32]⟩ ++ NM ++ ⟨#[62, 10]⟩ = bs ((ns.take k).flatMap (Dom.lineP (Dom.linesP d) F) ++ Dom.headP F x) := by
            unfold Dom.headP
            rw [hO.out, ← HFF.out, ← hNM, hsp, show (⟨#[60]⟩ : ByteArray) = bs [60] from rfl, show (⟨#[115, 118, 103, 32]⟩ : ByteArray) = bs [115, 118, 103, 32] from rfl, show (⟨#[62, 10]⟩ : ByteArray) = bs [62, 10] from rfl, dp_cat, dp_cat, dp_cat, dp_cat, dp_cat]
            simp only [List.append_assoc]
          obtain ⟨O1, hO1⟩ : ∃ O1 : ByteArray, O ++ FF ++ ⟨#[60]⟩ ++ ⟨#[115, 118, 103, 32]⟩ ++ NM ++ ⟨#[62, 10]⟩ = O1 := ⟨_, rfl⟩
          rw [hO1] at hHD
          have HO1 := hid hO1
          have m1 : ¬ 9223372036854775807 < O.size + FF.size := by omega
          have m2 : ¬ 9223372036854775807 < O.size + FF.size + 1 := by omega
          have m3 : ¬ 9223372036854775807 < O.size + FF.size + 1 + 4 := by omega
          have m4 : ¬ 9223372036854775807 < O.size + FF.size + 1 + 4 + NM.size := by omega
          have m5 : ¬ 9223372036854775807 < O.size + FF.size + 1 + 4 + NM.size + 2 := by omega
          have hs1 : O1.size ≤ 100000000000 := by
            rw [← hO1, ByteArray.size_append, ByteArray.size_append, ByteArray.size_append, ByteArray.size_append, ByteArray.size_append]
            show O.size + FF.size + 1 + 4 + NM.size + 2 ≤ _
            omega
          have HDN := hid (show O1 = bs ((ns.take k).flatMap (Dom.lineP (Dom.linesP d) F) ++ Dom.headP F x ++ Dom.attsP F (x.atts.take 0)) by rw [hHD]; simp [Dom.attsP])
          have HX1 := hid (show x.kind = 1 by omega)
          have hb1 : Below wr.heap.size wr (wr.alloc (.cells #[.int .u8 1, .int .u8 1, .string NM, .slice aa an ac, .string TX, .slice ka kn kc] 32)) := (Below.refl _ wr).alloc (Nat.le_refl _) _
          have Q1 := BlkW.new wr #[.int .u8 1, .int .u8 1, .string NM, .slice aa an ac, .string TX, .slice ka kn kc] 32
          have HA := hid (X.atts.below hb1)
          have HK := hid (X.kids.below hb1)
          have HB0 := hid (hB.out.trans (hb1.mono hB.out.size))
          obtain ⟨W, hW⟩ : ∃ W, wr.alloc (.cells #[.int .u8 1, .int .u8 1, .string NM, .slice aa an ac, .string TX, .slice ka kn kc] 32) = W := ⟨_, rfl⟩
          rw [hW] at Q1 HA HK HB0
          have HQ1 := hid Q1
          have HWW := hid hW
          have HAL := hid X.atts.1
          rw [hkI] at x0
          rw [hsI] at x1
          clear hO hTX hNM hsp hHD hO1 hx hW Q1 hb1 X
          go_wp2
          rw [HWW.out, HO1.out]
          go_loopg [5, 9] an (fun g ov iv wr2 => ∃ (q : Nat) (O2 : ByteArray), q + g = an ∧ iv = .int .i64 q ∧ ov = .string O2 ∧ Hid (O2 = bs ((ns.take k).flatMap (Dom.lineP (Dom.linesP d) F) ++ Dom.headP F x ++ Dom.attsP F (x.atts.take q))) ∧ Below W.heap.size W wr2)
          case atStart => exact ⟨0, O1, by omega, rfl, rfl, HDN, Below.refl _ _⟩
          case round =>
            obtain ⟨q, O2, hq, rfl, rfl, hO2, hb⟩ := hrel
            have HBn := hid (HB0.out.trans (hb.mono HB0.out.size))
            have q3 := (HQ1.out.below hb HQ1.out.lt).cell 3
            have q5 := (HQ1.out.below hb HQ1.out.lt).cell 5
            simp only [List.getElem?_toArray, List.getElem?_cons_zero, List.getElem?_cons_succ] at q3 q5
            obtain ⟨r1, r2, r3, r4, r5, r6, r7, r8⟩ := HRM.out
            have hz2 : O2.size ≤ 300000000000 := by
              have h1 : (Dom.attsP F (x.atts.take q)).length ≤ (Dom.attsP F x.atts).length := by
                have h2 : Dom.attsP F x.atts = Dom.attsP F (x.atts.take q) ++ Dom.attsP F (x.atts.drop q) := by
                  unfold Dom.attsP
                  rw [← List.flatMap_append, List.take_append_drop]
                rw [h2, List.length_append]
                exact Nat.le_add_right _ _
              have h3 := space_head F x
              rw [hO2.out, dp_size, List.length_append, List.length_append]
              have h4 := HTL.out
              have h5 := HFL.out
              omega
            by_cases hlt : q < an
            · have d1 : decide (q < an) = true := decide_eq_true hlt
              have hltI : (q : Int) < (an : Int) := by omega
              have z1 : ((q : Int)).toNat = q := by omega
              have z2 : (0 : Int) ≤ (q : Int) := by omega
              obtain ⟨_, z0 | ⟨b2, o2, rfl, hat⟩⟩ := HA.out.below hb
              · omega
              obtain ⟨p, hp⟩ : ∃ p, x.atts[q]? = some p := ⟨_, List.getElem?_eq_getElem (by have := HAL.out; omega)⟩
              obtain ⟨p1, p2⟩ := hat q p hp
              obtain ⟨s1, s2⟩ := r3 p (List.mem_of_getElem? hp)
              obtain ⟨Y1, hY1⟩ : ∃ Y1, bs p.1 = Y1 := ⟨_, rfl⟩
              obtain ⟨Y2, hY2⟩ : ∃ Y2, bs p.2 = Y2 := ⟨_, rfl⟩
              have l1 : Y1.size ≤ 900000 := by rw [← hY1, dp_size]; exact s1
              have l2 : Y2.size ≤ 900000 := by rw [← hY2, dp_size]; exact s2
              rw [hY1] at p1
              rw [hY2] at p2
              have HN2 : Hid (O2 ++ FF ++ ⟨#[32, 32]⟩ ++ Y1 ++ ⟨#[61, 34]⟩ ++ Y2 ++ ⟨#[34, 10]⟩ = bs ((ns.take k).flatMap (Dom.lineP (Dom.linesP d) F) ++ Dom.headP F x ++ Dom.attsP F (x.atts.take (q + 1)))) := hid (by
                rw [hO2.out, ← HFF.out, ← hY1, ← hY2, show (⟨#[32, 32]⟩ : ByteArray) = bs [32, 32] from rfl, show (⟨#[61, 34]⟩ : ByteArray) = bs [61, 34] from rfl, show (⟨#[34, 10]⟩ : ByteArray) = bs [34, 10] from rfl, dp_cat, dp_cat, dp_cat, dp_cat, dp_cat, dp_cat, List.take_add_one, hp]
                congr 1
                simp [Dom.attsP, Dom.attP, List.flatMap_append])
              have n1 : ¬ 9223372036854775807 < O2.size + FF.size := by omega
              have n2 : ¬ 9223372036854775807 < O2.size + FF.size + 2 := by omega
              have n3 : ¬ 9223372036854775807 < O2.size + FF.size + 2 + Y1.size := by omega
              have n4 : ¬ 9223372036854775807 < O2.size + FF.size + 2 + Y1.size + 2 := by omega
              have n5 : ¬ 9223372036854775807 < O2.size + FF.size + 2 + Y1.size + 2 + Y2.size := by omega
              have n6 : ¬ 9223372036854775807 < O2.size + FF.size + 2 + Y1.size + 2 + Y2.size + 2 := by omega
              have han : an ≤ 100000 := by have := HAL.out; omega
              clear hO2 hat hp hY1 hY2 s1 s2 r1 r2 r3 r4 r5 r6 r7 r8
              go_wp2
              go_region
              go_wp2
              go_roundg (an - (q + 1))
              case measure => omega
              case rel => exact ⟨q + 1, _, by omega, by go_num, rfl, HN2, bel_drewN hb 1⟩
            · have d1 : decide (q < an) = false := decide_eq_false hlt
              have hltI : ¬ (q : Int) < (an : Int) := by omega
              have hO3 : O2 = bs ((ns.take k).flatMap (Dom.lineP (Dom.linesP d) F) ++ Dom.headP F x ++ Dom.attsP F x.atts) := by rw [hO2.out, List.take_of_length_le (l := x.atts) (by have := HAL.out; omega)]
              have hF2 : FF ++ ⟨#[32, 32]⟩ = bs (F ++ [32, 32]) := by rw [← HFF.out, show (⟨#[32, 32]⟩ : ByteArray) = bs [32, 32] from rfl, dp_cat]
              have SK := HIH.out S x.kids ka kn kc (F ++ [32, 32]) _ (HK.out.below hb) r5 (by rw [List.length_append]; show F.length + 2 + _ ≤ _; exact r6)
              rw [← hF2] at SK
              obtain ⟨Z, hZ⟩ : ∃ Z, bs (Dom.linesP d x.kids (F ++ [32, 32])) = Z := ⟨_, rfl⟩
              have l3 : Z.size ≤ 90000000000 := by rw [← hZ, dp_size]; exact r7
              rw [hZ] at SK
              have SK := hid SK
              have HN : Hid (O2 ++ Z = bs ((ns.take (k + 1)).flatMap (Dom.lineP (Dom.linesP d) F))) := hid (by
                rw [HTK.out, hO3, ← hZ, dp_cat, List.flatMap_append]
                congr 1
                rw [List.flatMap_cons, List.flatMap_nil, List.append_nil]
                unfold Dom.lineP
                have := HX1.out
                rw [if_neg (by omega), if_neg (by omega), if_pos this]
                simp only [List.append_assoc])
              have n1 : ¬ 9223372036854775807 < FF.size + 2 := by omega
              have n2 : ¬ 9223372036854775807 < O2.size + Z.size := by omega
              clear hO2 hO3 hF2 hZ r1 r2 r3 r4 r5 r6 r7 r8
              go_wp2_with fail
              refine (SK.out).mono ?_
              rintro e w4 ⟨rfl, b4⟩
              have HBn := hid (HBn.out.trans (b4.mono HBn.out.size))
              clear b4
              go_wp2
              go_roundg (n - (k + 1))
              case measure => omega
              case rel => exact ⟨k + 1, _, by omega, by go_num, rfl, HN, HBn⟩
        by_cases h2s : x.space = 2
        · skip
          have hkI : ((x.kind : Nat) : Int) = 1 := by omega
          have hsI : ((x.space : Nat) : Int) = 2 := by omega
          have e1 : ((x.kind : Int) == 1) = true := by simp; omega
          have e2 : ((x.kind : Int) == 2) = false := by simp; omega
          have e3 : ((x.kind : Int) == 3) = false := by simp; omega
          have u1 : ((x.space : Int) == 1) = false := by simp; omega
          have u2 : ((x.space : Int) == 2) = true := by simp; omega
          have hsp : Dom.spaceP x.space = [109, 97, 116, 104, 32] := by unfold Dom.spaceP; rw [if_neg (by omega), if_pos h2s]
          have hHD : O ++ FF ++ ⟨#[60]⟩ ++ ⟨#[109, 97, 116, 104, 32]⟩ ++ NM ++ ⟨#[62, 10]⟩ = bs ((ns.take k).flatMap (Dom.lineP (Dom.linesP d) F) ++ Dom.headP F x) := by
            unfold Dom.headP
            rw [hO.out, ← HFF.out, ← hNM, hsp, show (⟨#[60]⟩ : ByteArray) = bs [60] from rfl, show (⟨#[109, 97, 116, 104, 32]⟩ : ByteArray) = bs [109, 97, 116, 104, 32] from rfl, show (⟨#[62, 10]⟩ : ByteArray) = bs [62, 10] from rfl, dp_cat, dp_cat, dp_cat, dp_cat, dp_cat]
            simp only [List.append_assoc]
          obtain ⟨O1, hO1⟩ : ∃ O1 : ByteArray, O ++ FF ++ ⟨#[60]⟩ ++ ⟨#[109, 97, 116, 104, 32]⟩ ++ NM ++ ⟨#[62, 10]⟩ = O1 := ⟨_, rfl⟩
          rw [hO1] at hHD
          have HO1 := hid hO1
          have m1 : ¬ 9223372036854775807 < O.size + FF.size := by omega
          have m2 : ¬ 9223372036854775807 < O.size + FF.size + 1 := by omega
          have m3 : ¬ 9223372036854775807 < O.size + FF.size + 1 + 5 := by omega
          have m4 : ¬ 9223372036854775807 < O.size + FF.size + 1 + 5 + NM.size := by omega
          have m5 : ¬ 9223372036854775807 < O.size + FF.size + 1 + 5 + NM.size + 2 := by omega
          have hs1 : O1.size ≤ 100000000000 := by
            rw [← hO1, ByteArray.size_append, ByteArray.size_append, ByteArray.size_append, ByteArray.size_append, ByteArray.size_append]
            show O.size + FF.size + 1 + 5 + NM.size + 2 ≤ _
            omega
          have HDN := hid (show O1 = bs ((ns.take k).flatMap (Dom.lineP (Dom.linesP d) F) ++ Dom.headP F x ++ Dom.attsP F (x.atts.take 0)) by rw [hHD]; simp [Dom.attsP])
          have HX1 := hid (show x.kind = 1 by omega)
          have hb1 : Below wr.heap.size wr (wr.alloc (.cells #[.int .u8 1, .int .u8 2, .string NM, .slice aa an ac, .string TX, .slice ka kn kc] 32)) := (Below.refl _ wr).alloc (Nat.le_refl _) _
          have Q1 := BlkW.new wr #[.int .u8 1, .int .u8 2, .string NM, .slice aa an ac, .string TX, .slice ka kn kc] 32
          have HA := hid (X.atts.below hb1)
          have HK := hid (X.kids.below hb1)
          have HB0 := hid (hB.out.trans (hb1.mono hB.out.size))
          obtain ⟨W, hW⟩ : ∃ W, wr.alloc (.cells #[.int .u8 1, .int .u8 2, .string NM, .slice aa an ac, .string TX, .slice ka kn kc] 32) = W := ⟨_, rfl⟩
          rw [hW] at Q1 HA HK HB0
          have HQ1 := hid Q1
          have HWW := hid hW
          have HAL := hid X.atts.1
          rw [hkI] at x0
          rw [hsI] at x1
          clear hO hTX hNM hsp hHD hO1 hx hW Q1 hb1 X
          go_wp2
          rw [HWW.out, HO1.out]
          go_loopg [5, 9] an (fun g ov iv wr2 => ∃ (q : Nat) (O2 : ByteArray), q + g = an ∧ iv = .int .i64 q ∧ ov = .string O2 ∧ Hid (O2 = bs ((ns.take k).flatMap (Dom.lineP (Dom.linesP d) F) ++ Dom.headP F x ++ Dom.attsP F (x.atts.take q))) ∧ Below W.heap.size W wr2)
          case atStart => exact ⟨0, O1, by omega, rfl, rfl, HDN, Below.refl _ _⟩
          case round =>
            obtain ⟨q, O2, hq, rfl, rfl, hO2, hb⟩ := hrel
            have HBn := hid (HB0.out.trans (hb.mono HB0.out.size))
            have q3 := (HQ1.out.below hb HQ1.out.lt).cell 3
            have q5 := (HQ1.out.below hb HQ1.out.lt).cell 5
            simp only [List.getElem?_toArray, List.getElem?_cons_zero, List.getElem?_cons_succ] at q3 q5
            obtain ⟨r1, r2, r3, r4, r5, r6, r7, r8⟩ := HRM.out
            have hz2 : O2.size ≤ 300000000000 := by
              have h1 : (Dom.attsP F (x.atts.take q)).length ≤ (Dom.attsP F x.atts).length := by
                have h2 : Dom.attsP F x.atts = Dom.attsP F (x.atts.take q) ++ Dom.attsP F (x.atts.drop q) := by
                  unfold Dom.attsP
                  rw [← List.flatMap_append, List.take_append_drop]
                rw [h2, List.length_append]
                exact Nat.le_add_right _ _
              have h3 := space_head F x
              rw [hO2.out, dp_size, List.length_append, List.length_append]
              have h4 := HTL.out
              have h5 := HFL.out
              omega
            by_cases hlt : q < an
            · have d1 : decide (q < an) = true := decide_eq_true hlt
              have hltI : (q : Int) < (an : Int) := by omega
              have z1 : ((q : Int)).toNat = q := by omega
              have z2 : (0 : Int) ≤ (q : Int) := by omega
              obtain ⟨_, z0 | ⟨b2, o2, rfl, hat⟩⟩ := HA.out.below hb
              · omega
              obtain ⟨p, hp⟩ : ∃ p, x.atts[q]? = some p := ⟨_, List.getElem?_eq_getElem (by have := HAL.out; omega)⟩
              obtain ⟨p1, p2⟩ := hat q p hp
              obtain ⟨s1, s2⟩ := r3 p (List.mem_of_getElem? hp)
              obtain ⟨Y1, hY1⟩ : ∃ Y1, bs p.1 = Y1 := ⟨_, rfl⟩
              obtain ⟨Y2, hY2⟩ : ∃ Y2, bs p.2 = Y2 := ⟨_, rfl⟩
              have l1 : Y1.size ≤ 900000 := by rw [← hY1, dp_size]; exact s1
              have l2 : Y2.size ≤ 900000 := by rw [← hY2, dp_size]; exact s2
              rw [hY1] at p1
              rw [hY2] at p2
              have HN2 : Hid (O2 ++ FF ++ ⟨#[32, 32]⟩ ++ Y1 ++ ⟨#[61, 34]⟩ ++ Y2 ++ ⟨#[34, 10]⟩ = bs ((ns.take k).flatMap (Dom.lineP (Dom.linesP d) F) ++ Dom.headP F x ++ Dom.attsP F (x.atts.take (q + 1)))) := hid (by
                rw [hO2.out, ← HFF.out, ← hY1, ← hY2, show (⟨#[32, 32]⟩ : ByteArray) = bs [32, 32] from rfl, show (⟨#[61, 34]⟩ : ByteArray) = bs [61, 34] from rfl, show (⟨#[34, 10]⟩ : ByteArray) = bs [34, 10] from rfl, dp_cat, dp_cat, dp_cat, dp_cat, dp_cat, dp_cat, List.take_add_one, hp]
                congr 1
                simp [Dom.attsP, Dom.attP, List.flatMap_append])
              have n1 : ¬ 9223372036854775807 < O2.size + FF.size := by omega
              have n2 : ¬ 9223372036854775807 < O2.size + FF.size + 2 := by omega
              have n3 : ¬ 9223372036854775807 < O2.size + FF.size + 2 + Y1.size := by omega
              have n4 : ¬ 9223372036854775807 < O2.size + FF.size + 2 + Y1.size + 2 := by omega
              have n5 : ¬ 9223372036854775807 < O2.size + FF.size + 2 + Y1.size + 2 + Y2.size := by omega
              have n6 : ¬ 9223372036854775807 < O2.size + FF.size + 2 + Y1.size + 2 + Y2.size + 2 := by omega
              have han : an ≤ 100000 := by have := HAL.out; omega
              clear hO2 hat hp hY1 hY2 s1 s2 r1 r2 r3 r4 r5 r6 r7 r8
              go_wp2
              go_region
              go_wp2
              go_roundg (an - (q + 1))
              case measure => omega
              case rel => exact ⟨q + 1, _, by omega, by go_num, rfl, HN2, bel_drewN hb 1⟩
            · have d1 : decide (q < an) = false := decide_eq_false hlt
              have hltI : ¬ (q : Int) < (an : Int) := by omega
              have hO3 : O2 = bs ((ns.take k).flatMap (Dom.lineP (Dom.linesP d) F) ++ Dom.headP F x ++ Dom.attsP F x.atts) := by rw [hO2.out, List.take_of_length_le (l := x.atts) (by have := HAL.out; omega)]
              have hF2 : FF ++ ⟨#[32, 32]⟩ = bs (F ++ [32, 32]) := by rw [← HFF.out, show (⟨#[32, 32]⟩ : ByteArray) = bs [32, 32] from rfl, dp_cat]
              have SK := HIH.out S x.kids ka kn kc (F ++ [32, 32]) _ (HK.out.below hb) r5 (by rw [List.length_append]; show F.length + 2 + _ ≤ _; exact r6)
              rw [← hF2] at SK
              obtain ⟨Z, hZ⟩ : ∃ Z, bs (Dom.linesP d x.kids (F ++ [32, 32])) = Z := ⟨_, rfl⟩
              have l3 : Z.size ≤ 90000000000 := by rw [← hZ, dp_size]; exact r7
              rw [hZ] at SK
              have SK := hid SK
              have HN : Hid (O2 ++ Z = bs ((ns.take (k + 1)).flatMap (Dom.lineP (Dom.linesP d) F))) := hid (by
                rw [HTK.out, hO3, ← hZ, dp_cat, List.flatMap_append]
                congr 1
                rw [List.flatMap_cons, List.flatMap_nil, List.append_nil]
                unfold Dom.lineP
                have := HX1.out
                rw [if_neg (by omega), if_neg (by omega), if_pos this]
                simp only [List.append_assoc])
              have n1 : ¬ 9223372036854775807 < FF.size + 2 := by omega
              have n2 : ¬ 9223372036854775807 < O2.size + Z.size := by omega
              clear hO2 hO3 hF2 hZ r1 r2 r3 r4 r5 r6 r7 r8
              go_wp2_with fail
              refine (SK.out).mono ?_
              rintro e w4 ⟨rfl, b4⟩
              have HBn := hid (HBn.out.trans (b4.mono HBn.out.size))
              clear b4
              go_wp2
              go_roundg (n - (k + 1))
              case measure => omega
              case rel => exact ⟨k + 1, _, by omega, by go_num, rfl, HN, HBn⟩
        have h3s : x.space ≠ 1 ∧ x.space ≠ 2 := ⟨h1s, h2s⟩
        have hkI : ((x.kind : Nat) : Int) = 1 := by omega
        have e1 : ((x.kind : Int) == 1) = true := by simp; omega
        have e2 : ((x.kind : Int) == 2) = false := by simp; omega
        have e3 : ((x.kind : Int) == 3) = false := by simp; omega
        have u1 : ((x.space : Int) == 1) = false := by simp; omega
        have u2 : ((x.space : Int) == 2) = false := by simp; omega
        have hsp : Dom.spaceP x.space = [] := by unfold Dom.spaceP; rw [if_neg h3s.1, if_neg h3s.2]
        have hHD : O ++ FF ++ ⟨#[60]⟩ ++ ⟨#[]⟩ ++ NM ++ ⟨#[62, 10]⟩ = bs ((ns.take k).flatMap (Dom.lineP (Dom.linesP d) F) ++ Dom.headP F x) := by
          unfold Dom.headP
          rw [hO.out, ← HFF.out, ← hNM, hsp, show (⟨#[60]⟩ : ByteArray) = bs [60] from rfl, show (⟨#[]⟩ : ByteArray) = bs [] from rfl, show (⟨#[62, 10]⟩ : ByteArray) = bs [62, 10] from rfl, dp_cat, dp_cat, dp_cat, dp_cat, dp_cat]
          simp only [List.append_assoc]
        obtain ⟨O1, hO1⟩ : ∃ O1 : ByteArray, O ++ FF ++ ⟨#[60]⟩ ++ ⟨#[]⟩ ++ NM ++ ⟨#[62, 10]⟩ = O1 := ⟨_, rfl⟩
        rw [hO1] at hHD
        have HO1 := hid hO1
        have m1 : ¬ 9223372036854775807 < O.size + FF.size := by omega
        have m2 : ¬ 9223372036854775807 < O.size + FF.size + 1 := by omega
        have m4 : ¬ 9223372036854775807 < O.size + FF.size + 1 + NM.size := by omega
        have m5 : ¬ 9223372036854775807 < O.size + FF.size + 1 + NM.size + 2 := by omega
        have hs1 : O1.size ≤ 100000000000 := by
          rw [← hO1, ByteArray.size_append, ByteArray.size_append, ByteArray.size_append, ByteArray.size_append, ByteArray.size_append]
          show O.size + FF.size + 1 + NM.size + 2 ≤ _
          omega
        have HDN := hid (show O1 = bs ((ns.take k).flatMap (Dom.lineP (Dom.linesP d) F) ++ Dom.headP F x ++ Dom.attsP F (x.atts.take 0)) by rw [hHD]; simp [Dom.attsP])
        have HX1 := hid (show x.kind = 1 by omega)
        have hb1 : Below wr.heap.size wr (wr.alloc (.cells #[.int .u8 1, .int .u8 x.space, .string NM, .slice aa an ac, .string TX, .slice ka kn kc] 32)) := (Below.refl _ wr).alloc (Nat.le_refl _) _
        have Q1 := BlkW.new wr #[.int .u8 1, .int .u8 x.space, .string NM, .slice aa an ac, .string TX, .slice ka kn kc] 32
        have HA := hid (X.atts.below hb1)
        have HK := hid (X.kids.below hb1)
        have HB0 := hid (hB.out.trans (hb1.mono hB.out.size))
        obtain ⟨W, hW⟩ : ∃ W, wr.alloc (.cells #[.int .u8 1, .int .u8 x.space, .string NM, .slice aa an ac, .string TX, .slice ka kn kc] 32) = W := ⟨_, rfl⟩
        rw [hW] at Q1 HA HK HB0
        have HQ1 := hid Q1
        have HWW := hid hW
        have HAL := hid X.atts.1
        rw [hkI] at x0
        clear hO hTX hNM hsp hHD hO1 hx hW Q1 hb1 X
        generalize x.space = SPC at *
        go_wp2
        rw [HWW.out, HO1.out]
        go_loopg [5, 9] an (fun g ov iv wr2 => ∃ (q : Nat) (O2 : ByteArray), q + g = an ∧ iv = .int .i64 q ∧ ov = .string O2 ∧ Hid (O2 = bs ((ns.take k).flatMap (Dom.lineP (Dom.linesP d) F) ++ Dom.headP F x ++ Dom.attsP F (x.atts.take q))) ∧ Below W.heap.size W wr2)
        case atStart => exact ⟨0, O1, by omega, rfl, rfl, HDN, Below.refl _ _⟩
        case round =>
          obtain ⟨q, O2, hq, rfl, rfl, hO2, hb⟩ := hrel
          have HBn := hid (HB0.out.trans (hb.mono HB0.out.size))
          have q3 := (HQ1.out.below hb HQ1.out.lt).cell 3
          have q5 := (HQ1.out.below hb HQ1.out.lt).cell 5
          simp only [List.getElem?_toArray, List.getElem?_cons_zero, List.getElem?_cons_succ] at q3 q5
          obtain ⟨r1, r2, r3, r4, r5, r6, r7, r8⟩ := HRM.out
          have hz2 : O2.size ≤ 300000000000 := by
            have h1 : (Dom.attsP F (x.atts.take q)).length ≤ (Dom.attsP F x.atts).length := by
              have h2 : Dom.attsP F x.atts = Dom.attsP F (x.atts.take q) ++ Dom.attsP F (x.atts.drop q) := by
                unfold Dom.attsP
                rw [← List.flatMap_append, List.take_append_drop]
              rw [h2, List.length_append]
              exact Nat.le_add_right _ _
            have h3 := space_head F x
            rw [hO2.out, dp_size, List.length_append, List.length_append]
            have h4 := HTL.out
            have h5 := HFL.out
            omega
          by_cases hlt : q < an
          · have d1 : decide (q < an) = true := decide_eq_true hlt
            have hltI : (q : Int) < (an : Int) := by omega
            have z1 : ((q : Int)).toNat = q := by omega
            have z2 : (0 : Int) ≤ (q : Int) := by omega
            obtain ⟨_, z0 | ⟨b2, o2, rfl, hat⟩⟩ := HA.out.below hb
            · omega
            obtain ⟨p, hp⟩ : ∃ p, x.atts[q]? = some p := ⟨_, List.getElem?_eq_getElem (by have := HAL.out; omega)⟩
            obtain ⟨p1, p2⟩ := hat q p hp
            obtain ⟨s1, s2⟩ := r3 p (List.mem_of_getElem? hp)
            obtain ⟨Y1, hY1⟩ : ∃ Y1, bs p.1 = Y1 := ⟨_, rfl⟩
            obtain ⟨Y2, hY2⟩ : ∃ Y2, bs p.2 = Y2 := ⟨_, rfl⟩
            have l1 : Y1.size ≤ 900000 := by rw [← hY1, dp_size]; exact s1
            have l2 : Y2.size ≤ 900000 := by rw [← hY2, dp_size]; exact s2
            rw [hY1] at p1
            rw [hY2] at p2
            have HN2 : Hid (O2 ++ FF ++ ⟨#[32, 32]⟩ ++ Y1 ++ ⟨#[61, 34]⟩ ++ Y2 ++ ⟨#[34, 10]⟩ = bs ((ns.take k).flatMap (Dom.lineP (Dom.linesP d) F) ++ Dom.headP F x ++ Dom.attsP F (x.atts.take (q + 1)))) := hid (by
              rw [hO2.out, ← HFF.out, ← hY1, ← hY2, show (⟨#[32, 32]⟩ : ByteArray) = bs [32, 32] from rfl, show (⟨#[61, 34]⟩ : ByteArray) = bs [61, 34] from rfl, show (⟨#[34, 10]⟩ : ByteArray) = bs [34, 10] from rfl, dp_cat, dp_cat, dp_cat, dp_cat, dp_cat, dp_cat, List.take_add_one, hp]
              congr 1
              simp [Dom.attsP, Dom.attP, List.flatMap_append])
            have n1 : ¬ 9223372036854775807 < O2.size + FF.size := by omega
            have n2 : ¬ 9223372036854775807 < O2.size + FF.size + 2 := by omega
            have n3 : ¬ 9223372036854775807 < O2.size + FF.size + 2 + Y1.size := by omega
            have n4 : ¬ 9223372036854775807 < O2.size + FF.size + 2 + Y1.size + 2 := by omega
            have n5 : ¬ 9223372036854775807 < O2.size + FF.size + 2 + Y1.size + 2 + Y2.size := by omega
            have n6 : ¬ 9223372036854775807 < O2.size + FF.size + 2 + Y1.size + 2 + Y2.size + 2 := by omega
            have han : an ≤ 100000 := by have := HAL.out; omega
            clear hO2 hat hp hY1 hY2 s1 s2 r1 r2 r3 r4 r5 r6 r7 r8
            go_wp2
            go_region
            go_wp2
            go_roundg (an - (q + 1))
            case measure => omega
            case rel => exact ⟨q + 1, _, by omega, by go_num, rfl, HN2, bel_drewN hb 1⟩
          · have d1 : decide (q < an) = false := decide_eq_false hlt
            have hltI : ¬ (q : Int) < (an : Int) := by omega
            have hO3 : O2 = bs ((ns.take k).flatMap (Dom.lineP (Dom.linesP d) F) ++ Dom.headP F x ++ Dom.attsP F x.atts) := by rw [hO2.out, List.take_of_length_le (l := x.atts) (by have := HAL.out; omega)]
            have hF2 : FF ++ ⟨#[32, 32]⟩ = bs (F ++ [32, 32]) := by rw [← HFF.out, show (⟨#[32, 32]⟩ : ByteArray) = bs [32, 32] from rfl, dp_cat]
            have SK := HIH.out S x.kids ka kn kc (F ++ [32, 32]) _ (HK.out.below hb) r5 (by rw [List.length_append]; show F.length + 2 + _ ≤ _; exact r6)
            rw [← hF2] at SK
            obtain ⟨Z, hZ⟩ : ∃ Z, bs (Dom.linesP d x.kids (F ++ [32, 32])) = Z := ⟨_, rfl⟩
            have l3 : Z.size ≤ 90000000000 := by rw [← hZ, dp_size]; exact r7
            rw [hZ] at SK
            have SK := hid SK
            have HN : Hid (O2 ++ Z = bs ((ns.take (k + 1)).flatMap (Dom.lineP (Dom.linesP d) F))) := hid (by
              rw [HTK.out, hO3, ← hZ, dp_cat, List.flatMap_append]
              congr 1
              rw [List.flatMap_cons, List.flatMap_nil, List.append_nil]
              unfold Dom.lineP
              have := HX1.out
              rw [if_neg (by omega), if_neg (by omega), if_pos this]
              simp only [List.append_assoc])
            have n1 : ¬ 9223372036854775807 < FF.size + 2 := by omega
            have n2 : ¬ 9223372036854775807 < O2.size + Z.size := by omega
            clear hO2 hO3 hF2 hZ r1 r2 r3 r4 r5 r6 r7 r8
            go_wp2_with fail
            refine (SK.out).mono ?_
            rintro e w4 ⟨rfl, b4⟩
            have HBn := hid (HBn.out.trans (b4.mono HBn.out.size))
            clear b4
            go_wp2
            go_roundg (n - (k + 1))
            case measure => omega
            case rel => exact ⟨k + 1, _, by omega, by go_num, rfl, HN, HBn⟩
      have e1 : ((x.kind : Int) == 1) = false := by simp; omega
      have e2 : ((x.kind : Int) == 2) = false := by simp; omega
      have e3 : ((x.kind : Int) == 3) = false := by simp; omega
      have HN : Hid (O = bs ((ns.take (k + 1)).flatMap (Dom.lineP (Dom.linesP d) F))) := hid (by
        rw [HTK.out, hO.out, List.flatMap_append, List.flatMap_cons, List.flatMap_nil, List.append_nil]
        congr 1
        unfold Dom.lineP
        rw [if_neg hk2, if_neg hk3, if_neg hk1, List.append_nil])
      clear hO hTX hNM hx hk1 hk2 hk3 X
      generalize x.kind = K at *
      generalize x.space = SPC at *
      go_wp2
      go_roundg (n - (k + 1))
      case measure => omega
      case rel => exact ⟨k + 1, _, by omega, by go_num, rfl, HN, HBn⟩
    · have d1 : decide (k < n) = false := decide_eq_false hlt
      have hltI : ¬ (k : Int) < (n : Int) := by omega
      have HO := hid (show O = R by rw [← HR.out, hO.out, List.take_of_length_le (by have := HLN.out; omega)]; rfl)
      clear hO
      go_wp2
      go_ret
      exact ⟨by rw [HO.out]; first | done | rfl, hB.out⟩
theorem rlines_any : ∀ d, RLinesC d
  | 0 => rlines_zero
  | d + 1 => rlines_succ d (rlines_any d)
end Go.Proofs.Ythbklcpjbeelhaa
