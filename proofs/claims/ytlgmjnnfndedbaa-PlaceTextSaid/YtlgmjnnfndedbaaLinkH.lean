/- Walks over the program's package dom: Whole. -/
import Derived.Test.YtlgmjnnfndedbaaRefWhole
import Derived.Test.YtlgmjnnfndedbaaLinkE
import Derived.Test.YtlgmjnnfndedbaaLinkK
namespace Go.Proofs.Ytlgmjnnfndedbaa
open Go.RowKit Go.Lib
set_option maxRecDepth 100000
set_option linter.unusedVariables false

theorem own_capD {w : World} {base d : Nat} {v : Value} {ns : List Dom.N} {a' : Option Addr} {n cap' : Nat} (h : OwnD w base w.heap.size d v ns) (hv : v = .slice a' n cap') (hn : n = ns.length) : n ≤ cap' := by
  obtain ⟨rs, f', g', t', h1, _⟩ := h
  subst hv
  obtain ⟨_, ⟨e, h0⟩ | ⟨g, cap, cur, e, hb, hg, hc, _⟩⟩ := h1
  · injection e with _ e2 e3
    omega
  · injection e with _ e2 e3
    omega
theorem locC {wr w5 : World} {y : Dom.N} {a' : Option Addr} {c' : Nat} (h5 : Below wr.heap.size wr w5) (hI : IsA w5 a' y.atts.length y.atts) (hn : a' = none → c' = 0) (hty : TypB w5 a') (hge : ∀ p, a' = some p → wr.heap.size ≤ p.block) (hob : OwnB w5 91 a' y.atts.length) :
    ∃ W7, w5.alloc (.cells #[.int .u8 y.kind, .int .u8 y.space, .string (bs y.name), .slice a' y.atts.length c', .string (bs y.text), .slice none 0 0] 61) = W7 ∧ LocN wr w5.heap.size y a' c' W7 := by
  have al := (Below.refl w5.heap.size w5).alloc (Nat.le_refl _) (.cells #[.int .u8 y.kind, .int .u8 y.space, .string (bs y.name), .slice a' y.atts.length c', .string (bs y.text), .slice none 0 0] 61)
  have hne : InS (fun k => k < w5.heap.size) a' y.atts.length := .inr fun p hp => hty.lt p hp
  exact ⟨_, rfl, BlkW.new w5 _ _, h5.size, hI.below al, .inr fun p hp => ⟨hge p hp, by have := hty.lt p hp; have := al.size; omega⟩, hob.keep hne fun k hk => al.block k hk, hn, h5.alloc h5.size _⟩
/-- What Whole is known to tell of nodes that are at most d deep. -/
def WholeK (t : Dom.T) (r : Nat → Nat) (M d : Nat) : Prop := ∀ (i : Nat), i < t.length → M - r i < d → ∀ (w : World) (base R : Nat) (S : Nat → Prop), TreeK w base R S t →
  Calls Try.prog 26 #[.pointer (some ⟨R, 0, none⟩), .int .i64 i] w fun e w' => NewD d w w' e (Dom.wholeF d t i) ∧ Below w.heap.size w w'
set_option maxHeartbeats 16000000 in
theorem wholeK_succ {t : Dom.T} (hG : Dom.Good t) (hf : t.length ≤ 1000000) {r : Nat → Nat} (hr : ∀ k (p : Nat), Dom.parAt t k = (p : Nat) → r p < r k) {M : Nat} (hM : ∀ i, i < t.length → r i ≤ M) (hcost : ∀ i, Dom.cost (Dom.nodeAt t i).nd ≤ 500000) (d : Nat) (hbare : ∀ i, Dom.bareP (Dom.nodeAt t i).nd = (Dom.nodeAt t i).nd) (IH : WholeK t r M d) : WholeK t r M (d + 1) := by
  intro i hi hd w base R S hK
  have hinb := hK.inb
  obtain ⟨g, cap, rs, hR⟩ := hK.read hG hf
  have hkT : Dom.kidsT t (i : Int) = Dom.kidsAt t i := by
    unfold Dom.kidsT
    rw [if_pos ⟨by omega, by omega⟩, show ((i : Int)).toNat = i by omega]
  have HKD := pkids_any w base R g cap S rs t (i : Int) hR hG
  rw [hkT] at HKD
  have HKD := hid HKD
  have hfew := good_few hG i
  have HKID := hid (show ∀ k ∈ Dom.kidsAt t i, k < t.length ∧ M - r k < d from fun k hk => by
    obtain ⟨q1, q2⟩ := hG.kid i k hk
    have := hr k i q2
    have := hM k q1
    exact ⟨q1, by omega⟩)
  obtain ⟨L, hL⟩ : ∃ L, Dom.kidsAt t i = L := ⟨_, rfl⟩
  have hW : Dom.wholeF (d + 1) t i = L.map fun k => Dom.withKids (Dom.bareP (Dom.nodeAt t k).nd) (Dom.wholeF d t k) := by rw [Dom.wholeF, hL]
  rw [hW]
  rw [hL] at HKD HKID hfew
  obtain ⟨NS, hNS⟩ : ∃ NS, (L.map fun k => Dom.withKids (Dom.bareP (Dom.nodeAt t k).nd) (Dom.wholeF d t k)) = NS := ⟨_, rfl⟩
  rw [hNS]
  have HNS := hid hNS
  obtain ⟨kn, hkn⟩ : ∃ kn, L.length = kn := ⟨_, rfl⟩
  have HLN := hid hkn
  have HNL := hid (show NS.length = kn by rw [← hNS, List.length_map]; exact hkn)
  have HIH := hid IH
  have HKK := hid fun W (hW : Below w.heap.size w W) => hK.below hW
  have HBA := hid fun (k : Nat) (hk : k < t.length) W (hW : Below w.heap.size w W) => (by
    obtain ⟨q1, q2, q3, _⟩ := cost_short (hcost k)
    exact pbare_any W base R g cap S rs t k ⟨hR.tree.below hW, hR.mod, hR.ne, hR.few⟩ hk q1 q2 (by omega))
  have HBP := hid hbare
  have HF := hid hf
  unfold NewZO at HKD
  rw [hkn] at HKD
  have hkl : kn ≤ 1000000 := by omega
  clear hR hK hG hL hNS hW IH hcost hr hM hd hkT hinb hbare hkn hfew hf hi
  go_enter Try.func26, Try.ntmps26
  go_wp2_with fail
  refine (HKD.out).mono ?_
  rintro e w1 ⟨⟨ka, kc, rfl, hz, _⟩, b1⟩
  have HZ := hid hz
  have HB1 := hid b1
  clear hz b1
  go_wp2
  go_loopg [5, 13] kn (fun gg ov iv wr => ∃ (j : Nat) (v : Value), v = ov ∧ j + gg = kn ∧ iv = .int .i64 j ∧ Hid (OwnD wr w1.heap.size wr.heap.size d v (NS.take j)) ∧ Hid (Below w1.heap.size w1 wr))
  case atStart => exact ⟨0, _, rfl, by omega, rfl, hid (OwnD.nil _ _ _ (Nat.le_refl _)), hid (Below.refl _ _)⟩
  case round =>
    obtain ⟨j, v, rfl, hj, rfl, hO, hB⟩ := hrel
    by_cases hlt : j < kn
    · have d1 : decide (j < kn) = true := decide_eq_true hlt
      have hltI : (j : Int) < (kn : Int) := by omega
      obtain ⟨k, hk⟩ : ∃ k, L[j]? = some k := ⟨_, List.getElem?_eq_getElem (by have := HLN.out; omega)⟩
      obtain ⟨hkn, hkd⟩ := HKID.out k (List.mem_of_getElem? hk)
      obtain ⟨b0, o0, rfl, hatZ⟩ := HZ.out.2.resolve_left (by omega)
      have cz := cell_up (hatZ j k hk) hB.out
      have hBw := HB1.out.trans (hB.out.mono HB1.out.size)
      have HBR := hid (HBA.out k hkn wr hBw)
      obtain ⟨y, hy⟩ : ∃ y, (Dom.nodeAt t k).nd = y := ⟨_, rfl⟩
      have hyb := HBP.out k
      rw [hy] at HBR hyb
      have HTk : Hid (NS.take (j + 1) = NS.take j ++ [Dom.withKids y (Dom.wholeF d t k)]) := hid (by
        rw [List.take_add_one, ← HNS.out, List.getElem?_map, hk]
        show _ ++ [Dom.withKids (Dom.bareP (Dom.nodeAt t k).nd) (Dom.wholeF d t k)] = _
        rw [hy, hyb])
      have HIK := hid fun W (hW : Below w.heap.size w W) => HIH.out k hkn hkd W base R S (HKK.out W hW)
      unfold NewD at HIK
      unfold BareV at HBR
      have j1 : (0 : Int) ≤ (j : Int) := by omega
      have j3 : ((j : Int)).toNat = j := by omega
      clear hatZ hy hk hBw hyb
      go_wp2_with fail
      refine (HBR.out).mono ?_
      rintro e w5 ⟨⟨a', c', rfl, hI, hS, hn, hty, hge, hob⟩, b5⟩
      have hX := locC (wr := wr) b5 hI hn hty hge hob
      obtain ⟨W7, hW7, hLoc⟩ := hX
      have HL := hid hLoc
      have HW7 := hid hW7
      have HB7 := hid (hB.out.trans (hLoc.bel.mono hB.out.size))
      clear hI hS hn hty hge hob b5 hLoc hW7 cz
      go_wp2_with fail
      rw [HW7.out]
      clear HW7
      obtain ⟨LB, hLB⟩ : ∃ LB, w5.heap.size = LB := ⟨_, rfl⟩
      rw [hLB] at HL ⊢
      clear hLB
      have P7 := HL.out.blk
      have hlo := HL.out.lo
      have hLB7 := P7.lt
      have hs7 := HL.out.bel.size
      refine (HIK.out _ (HB1.out.trans (HB7.out.mono HB1.out.size))).mono ?_
      rintro e w8 ⟨⟨a8, n8, c8, rfl, hD8, hn8, _⟩, b8⟩
      have P8 := P7.below b8 hLB7
      have hz5 := P8.cell 5
      have hg5 := P8.free 5
      simp only [List.getElem?_toArray, List.getElem?_cons_zero, List.getElem?_cons_succ] at hz5
      have s8 := b8.size
      have B8 : Below wr.heap.size wr w8 := HL.out.bel.trans (b8.mono hs7)
      have B9 := B8.setCell (p := ⟨LB, 5, none⟩) hlo (.slice a8 n8 c8)
      have P9 : BlkW (w8.setCell ⟨LB, 5, none⟩ (.slice a8 n8 c8)) LB #[.int .u8 y.kind, .int .u8 y.space, .string (bs y.name), .slice a' y.atts.length c', .string (bs y.text), .slice a8 n8 c8] 61 := P8.set_ 5 (.slice a8 n8 c8)
      obtain ⟨w9, hw9⟩ : ∃ w9, w8.setCell ⟨LB, 5, none⟩ (.slice a8 n8 c8) = w9 := ⟨_, rfl⟩
      have h89 : ∀ k, k ≠ LB → w9.heap[k]? = w8.heap[k]? := fun k hk => by rw [← hw9]; exact Below.heap_setCell w8 ⟨LB, 5, none⟩ (.slice a8 n8 c8) k hk
      have hz9 : w9.heap.size = w8.heap.size := by rw [← hw9]; simp
      rw [hw9] at B9 P9
      have fit : FitsD wr.heap.size W7.heap.size w8.heap.size d w9 ⟨y.kind, y.space, y.name, a', y.atts.length, c', y.text, a8, n8, c8⟩ (Dom.withKids y (Dom.wholeF d t k)) := by
        have inS : InS (fun k => (wr.heap.size ≤ k ∧ k < W7.heap.size) ∧ k ≠ LB) a' y.atts.length := by
          rcases HL.out.own with h | ⟨bb, cs, e, h⟩
          · exact .inl h
          · rcases HL.out.inS with h2 | h2
            · exact .inl h2
            · refine .inr fun p hp => ⟨h2 p hp, ?_⟩
              rw [e] at hp
              obtain rfl := Option.some.inj hp
              exact blk_ne h P7 (by decide)
        have ka : ∀ k, (wr.heap.size ≤ k ∧ k < W7.heap.size) ∧ k ≠ LB → w9.heap[k]? = W7.heap[k]? := fun k hk => by
          rw [h89 k hk.2, b8.block k hk.1.2]
        exact ⟨rfl, rfl, rfl, rfl, isA_in HL.out.atts inS ka, HL.out.inS, HL.out.own.keep inS ka, hD8.keep fun k q1 q2 => h89 k (by omega), HL.out.anil, hn8⟩
      have O9 := hO.out.below B9 (Nat.le_refl _)
      have hw9s := B9.size
      have BW := B9.alloc B9.size (.cells #[.int .u8 y.kind, .int .u8 y.space, .string (bs y.name), .slice a' y.atts.length c', .string (bs y.text), .slice a8 n8 c8] 61)
      have O10 := hid (O9.below ((Below.refl w9.heap.size w9).alloc (Nat.le_refl _) (.cells #[.int .u8 y.kind, .int .u8 y.space, .string (bs y.name), .slice a' y.atts.length c', .string (bs y.text), .slice a8 n8 c8] 61)) hw9s)
      have F10 := hid (fit.keep hs7 s8 fun k _ q2 => Below.heap_alloc w9 (.cells #[.int .u8 y.kind, .int .u8 y.space, .string (bs y.name), .slice a' y.atts.length c', .string (bs y.text), .slice a8 n8 c8] 61) k (by omega))
      have M1 := hid (show wr.heap.size ≤ W7.heap.size from hs7)
      have M2 := hid (show W7.heap.size ≤ w8.heap.size from s8)
      have M3 := hid (show w8.heap.size ≤ (w9.alloc (.cells #[.int .u8 y.kind, .int .u8 y.space, .string (bs y.name), .slice a' y.atts.length c', .string (bs y.text), .slice a8 n8 c8] 61)).heap.size by rw [World.size_alloc]; omega)
      have B10 := hid (hB.out.trans (BW.mono hB.out.size))
      have N10 : Hid (∀ j, j < 6 → (w9.alloc (.cells #[.int .u8 y.kind, .int .u8 y.space, .string (bs y.name), .slice a' y.atts.length c', .string (bs y.text), .slice a8 n8 c8] 61)).cell? ((⟨w8.heap.size, 0, none⟩ : Addr).add j) = (nodeRow ⟨y.kind, y.space, y.name, a', y.atts.length, c', y.text, a8, n8, c8⟩)[j]?) := hid (by
        intro j hj
        rw [← hz9, addr_add, Nat.zero_add, (BlkW.new w9 _ _).cell j]
        unfold nodeRow
        simp)
      have q0 := P9.cell 0
      have q1 := P9.cell 1
      have q2 := P9.cell 2
      have q3 := P9.cell 3
      have q4 := P9.cell 4
      have q5 := P9.cell 5
      simp only [List.getElem?_toArray, List.getElem?_cons_zero, List.getElem?_cons_succ] at q0 q1 q2 q3 q4 q5
      have HW9 := hid hw9
      have HLj := hid (show (NS.take j).length + 1 ≤ 1000000000 by rw [List.length_take]; omega)
      have hP8c := P8.cell 0
      have hP8c1 := P8.cell 1
      have hP8c2 := P8.cell 2
      have hP8c3 := P8.cell 3
      have hP8c4 := P8.cell 4
      simp only [List.getElem?_toArray, List.getElem?_cons_zero, List.getElem?_cons_succ] at hP8c hP8c1 hP8c2 hP8c3 hP8c4
      clear b8 hD8 B8 B9 P8 P9 h89 hz9 fit O9 BW hw9s hw9
      go_wp2_with (at_builtin; rw [HW9.out]; refine append_D rfl _ _ rfl w1.heap.size wr.heap.size d _ (NS.take j) rfl O10.out wr.heap.size W7.heap.size w8.heap.size (Nat.le_refl _) M1.out M2.out M3.out ⟨w8.heap.size, 0, none⟩ 1 ⟨y.kind, y.space, y.name, a', y.atts.length, c', y.text, a8, n8, c8⟩ (Dom.withKids y (Dom.wholeF d t k)) rfl N10.out F10.out HLj.out B10.out.size ?_; intro v' w11 hown hgr; have HO11 := hid hown; have HB11 := hid (B10.out.grown hgr B10.out.size (fun g hg => by (obtain ⟨rs, f', g', t', h1, _⟩ := O10.out; exact own_ge h1 g hg))); clear hown hgr)
      rw [← HTk.out] at HO11
      go_roundg (kn - (j + 1))
      case measure => omega
      case rel => exact ⟨j + 1, _, rfl, by omega, by go_num, HO11, HB11⟩
    · have d1 : decide (j < kn) = false := decide_eq_false hlt
      have hltI : ¬ (j : Int) < (kn : Int) := by omega
      have hO2 := hO.out
      rw [List.take_of_length_le (by have := HNL.out; omega)] at hO2
      obtain ⟨a', cap', hv, hI, hx⟩ := own_isD hO2
      have hcap := own_capD hO2 hv rfl
      rw [HNL.out] at hv hI hcap
      have hRR := hid (show NewD (d + 1) w1 wr (.returned v) NS ∧ Below w1.heap.size w1 wr from ⟨⟨a', kn, cap', by rw [hv], hI, hx, hcap⟩, hB.out⟩)
      clear hO2 hv hI hx hO hcap
      go_wp2
      go_ret
      obtain ⟨⟨a', n', c', h1, h2, h3, h4⟩, h5⟩ := hRR.out
      exact ⟨⟨a', n', c', h1, h2.wide HB1.out.size (Nat.le_refl _), h3, h4⟩, HB1.out.trans (h5.mono HB1.out.size)⟩
theorem wholeK_all {t : Dom.T} (hG : Dom.Good t) (hf : t.length ≤ 1000000) {r : Nat → Nat} (hr : ∀ k (p : Nat), Dom.parAt t k = (p : Nat) → r p < r k) {M : Nat} (hM : ∀ i, i < t.length → r i ≤ M) (hcost : ∀ i, Dom.cost (Dom.nodeAt t i).nd ≤ 500000) (hbare : ∀ i, Dom.bareP (Dom.nodeAt t i).nd = (Dom.nodeAt t i).nd) : ∀ d, WholeK t r M d
  | 0 => fun i _ h => by omega
  | d + 1 => wholeK_succ hG hf hr hM hcost d hbare (wholeK_all hG hf hr hM hcost hbare d)
/-- Whole, at any depth that is great enough: new memory, all apart. -/
theorem pwhole_any {t : Dom.T} (hG : Dom.Good t) (hf : t.length ≤ 1000000) (hcost : ∀ i, Dom.cost (Dom.nodeAt t i).nd ≤ 500000) (hbare : ∀ i, Dom.bareP (Dom.nodeAt t i).nd = (Dom.nodeAt t i).nd) : ∃ D, ∀ d, D < d → ∀ (i : Nat), i < t.length → ∀ (w : World) (base R : Nat) (S : Nat → Prop), TreeK w base R S t →
    Calls Try.prog 26 #[.pointer (some ⟨R, 0, none⟩), .int .i64 i] w fun e w' => NewD d w w' e (Dom.wholeF d t i) ∧ Below w.heap.size w w' := by
  obtain ⟨r, hr⟩ := hG.ends
  obtain ⟨M, hM⟩ := Dom.ranks_le r t.length
  exact ⟨M, fun d hd i hi w base R S hK => wholeK_all hG hf hr hM hcost hbare d i hi (by omega) w base R S hK⟩
end Go.Proofs.Ytlgmjnnfndedbaa
