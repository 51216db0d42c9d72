/- Walks over the program's package dom: Whole. What the program's tree is known to do: the calls of package dom, over any tree that calls made. -/
import Derived.Test.YthbklcpjbeelhaaRefWhole
import Derived.Test.YthbklcpjbeelhaaLinkE
import Derived.Test.YthbklcpjbeelhaaLinkK
import Derived.Test.YthbklcpjbeelhaaLinkW
import Derived.Test.YthbklcpjbeelhaaLinkV
import Derived.Test.YthbklcpjbeelhaaNodeLend
namespace Go.Proofs.Ythbklcpjbeelhaa
open Go.RowKit Go.Lib
set_option maxRecDepth 100000
set_option linter.unusedVariables false

theorem own_capD {w : World} {base d : Nat} {v : Value} {ns : List Dom.N} {a' : Option Addr} {n cap' : Nat} (h : OwnD w base w.heap.size d v ns) (hv : v = .slice a' n cap') (hn : n = ns.length) : n ≤ cap' := by
  obtain ⟨rs, f', g', t', h1, _⟩ := h
  subst hv
  obtain ⟨_, ⟨e, h0⟩ | ⟨g, cap, cur, e, hb, hg, hc, _⟩⟩ := h1
  · injection e with _ e2 e3
    omega
  · injection e with _ e2 e3
    omega
theorem locC {wr w5 : World} {y : Dom.N} {a' : Option Addr} {c' : Nat} (h5 : Below wr.heap.size wr w5) (hI : IsA w5 a' y.atts.length y.atts) (hn : a' = none → c' = 0) (hty : TypB w5 a') (hge : ∀ p, a' = some p → wr.heap.size ≤ p.block) (hob : OwnB w5 67 a' y.atts.length) :
    ∃ W7, w5.alloc (.cells #[.int .u8 y.kind, .int .u8 y.space, .string (bs y.name), .slice a' y.atts.length c', .string (bs y.text), .slice none 0 0] 32) = W7 ∧ LocN wr w5.heap.size y a' c' W7 := by
  have al := (Below.refl w5.heap.size w5).alloc (Nat.le_refl _) (.cells #[.int .u8 y.kind, .int .u8 y.space, .string (bs y.name), .slice a' y.atts.length c', .string (bs y.text), .slice none 0 0] 32)
  have hne : InS (fun k => k < w5.heap.size) a' y.atts.length := .inr fun p hp => hty.lt p hp
  exact ⟨_, rfl, BlkW.new w5 _ _, h5.size, hI.below al, .inr fun p hp => ⟨hge p hp, by have := hty.lt p hp; have := al.size; omega⟩, hob.keep hne fun k hk => al.block k hk, hn, h5.alloc h5.size _⟩
/-- What Whole is known to tell of nodes that are at most d deep. -/
def WholeK (t : Dom.T) (r : Nat → Nat) (M d : Nat) : Prop := ∀ (i : Nat), i < t.length → M - r i < d → ∀ (w : World) (base R : Nat) (S : Nat → Prop), TreeK w base R S t →
  Calls Try.prog 32 #[.pointer (some ⟨R, 0, none⟩), .int .i64 i] w fun e w' => NewD d w w' e (Dom.wholeF d t i) ∧ Below w.heap.size w w'
set_option maxHeartbeats 16000000 in
theorem wholeK_succ {t : Dom.T} (hG : Dom.Good t) (hf : t.length ≤ 1000000) {r : Nat → Nat} (hr : ∀ k (p : Nat), Dom.parAt t k = (p : Nat) → r p < r k) {M : Nat} (hM : ∀ i, i < t.length → r i ≤ M) (hcost : ∀ i, Dom.cost (Dom.nodeAt t i).nd ≤ 500000) (d : Nat) (hbare : ∀ i, Dom.bareP (Dom.nodeAt t i).nd = (Dom.nodeAt t i).nd) (IH : WholeK t r M d) : WholeK t r M (d + 1) := by
  intro i hi hd w base R S hK
  have hinb := hK.inb
  obtain ⟨g, cap, rs, hR⟩ := hK.read hG hf
  have hkT : Dom.kidsT t (i : Int) = Dom.kidsAt t i := by
    unfold Dom.kidsT
    rw [if_pos ⟨by omega, by omega⟩, show ((i : Int)).toNat = i by omega]
  have HKD := pkids_any w base R g cap S rs t (i : Int) hR hG
  rw [hkT] at HKD
  have HKD := hid HKD
  have hfew := good_few hG i
  have HKID := hid (show ∀ k ∈ Dom.kidsAt t i, k < t.length ∧ M - r k < d from fun k hk => by
    obtain ⟨q1, q2⟩ := hG.kid i k hk
    have := hr k i q2
    have := hM k q1
    exact ⟨q1, by omega⟩)
  obtain ⟨L, hL⟩ : ∃ L, Dom.kidsAt t i = L := ⟨_, rfl⟩
  have hW : Dom.wholeF (d + 1) t i = L.map fun k => Dom.withKids (Dom.bareP (Dom.nodeAt t k).nd) (Dom.wholeF d t k) := by rw [Dom.wholeF, hL]
  rw [hW]
  rw [hL] at HKD HKID hfew
  obtain ⟨NS, hNS⟩ : ∃ NS, (L.map fun k => Dom.withKids (Dom.bareP (Dom.nodeAt t k).nd) (Dom.wholeF d t k)) = NS := ⟨_, rfl⟩
  rw [hNS]
  have HNS := hid hNS
  obtain ⟨kn, hkn⟩ : ∃ kn, L.length = kn := ⟨_, rfl⟩
  have HLN := hid hkn
  have HNL := hid (show NS.length = kn by rw [← hNS, List.length_map]; exact hkn)
  have HIH := hid IH
  have HKK := hid fun W (hW : Below w.heap.size w W) => hK.below hW
  have HBA := hid fun (k : Nat) (hk : k < t.length) W (hW : Below w.heap.size w W) => (by
    obtain ⟨q1, q2, q3, _⟩ := cost_short (hcost k)
    exact pbare_any W base R g cap S rs t k ⟨hR.tree.below hW, hR.mod, hR.ne, hR.few⟩ hk q1 q2 (by omega))
  have HBP := hid hbare
  have HF := hid hf
  unfold NewZO at HKD
  rw [hkn] at HKD
  have hkl : kn ≤ 1000000 := by omega
  clear hR hK hG hL hNS hW IH hcost hr hM hd hkT hinb hbare hkn hfew hf hi
  go_enter Try.func32, Try.ntmps32
  go_wp2_with fail
  refine (HKD.out).mono ?_
  rintro e w1 ⟨⟨ka, kc, rfl, hz, _⟩, b1⟩
  have HZ := hid hz
  have HB1 := hid b1
  clear hz b1
  go_wp2
  go_loopg [5, 13] kn (fun gg ov iv wr => ∃ (j : Nat) (v : Value), v = ov ∧ j + gg = kn ∧ iv = .int .i64 j ∧ Hid (OwnD wr w1.heap.size wr.heap.size d v (NS.take j)) ∧ Hid (Below w1.heap.size w1 wr))
  case atStart => exact ⟨0, _, rfl, by omega, rfl, hid (OwnD.nil _ _ _ (Nat.le_refl _)), hid (Below.refl _ _)⟩
  case round =>
    obtain ⟨j, v, rfl, hj, rfl, hO, hB⟩ := hrel
    by_cases hlt : j < kn
    · have d1 : decide (j < kn) = true := decide_eq_true hlt
      have hltI : (j : Int) < (kn : Int) := by omega
      obtain ⟨k, hk⟩ : ∃ k, L[j]? = some k := ⟨_, List.getElem?_eq_getElem (by have := HLN.out; omega)⟩
      obtain ⟨hkn, hkd⟩ := HKID.out k (List.mem_of_getElem? hk)
      obtain ⟨b0, o0, rfl, hatZ⟩ := HZ.out.2.resolve_left (by omega)
      have cz := cell_up (hatZ j k hk) hB.out
      have hBw := HB1.out.trans (hB.out.mono HB1.out.size)
      have HBR := hid (HBA.out k hkn wr hBw)
      obtain ⟨y, hy⟩ : ∃ y, (Dom.nodeAt t k).nd = y := ⟨_, rfl⟩
      have hyb := HBP.out k
      rw [hy] at HBR hyb
      have HTk : Hid (NS.take (j + 1) = NS.take j ++ [Dom.withKids y (Dom.wholeF d t k)]) := hid (by
        rw [List.take_add_one, ← HNS.out, List.getElem?_map, hk]
        show _ ++ [Dom.withKids (Dom.bareP (Dom.nodeAt t k).nd) (Dom.wholeF d t k)] = _
        rw [hy, hyb])
      have HIK := hid fun W (hW : Below w.heap.size w W) => HIH.out k hkn hkd W base R S (HKK.out W hW)
      unfold NewD at HIK
      unfold BareV at HBR
      have j1 : (0 : Int) ≤ (j : Int) := by omega
      have j3 : ((j : Int)).toNat = j := by omega
      clear hatZ hy hk hBw hyb
      go_wp2_with fail
      refine (HBR.out).mono ?_
      rintro e w5 ⟨⟨a', c', rfl, hI, hS, hn, hty, hge, hob⟩, b5⟩
      have hX := locC (wr := wr) b5 hI hn hty hge hob
      obtain ⟨W7, hW7, hLoc⟩ := hX
      have HL := hid hLoc
      have HW7 := hid hW7
      have HB7 := hid (hB.out.trans (hLoc.bel.mono hB.out.size))
      clear hI hS hn hty hge hob b5 hLoc hW7 cz
      go_wp2_with fail
      rw [HW7.out]
      clear HW7
      obtain ⟨LB, hLB⟩ : ∃ LB, w5.heap.size = LB := ⟨_, rfl⟩
      rw [hLB] at HL ⊢
      clear hLB
      have P7 := HL.out.blk
      have hlo := HL.out.lo
      have hLB7 := P7.lt
      have hs7 := HL.out.bel.size
      refine (HIK.out _ (HB1.out.trans (HB7.out.mono HB1.out.size))).mono ?_
      rintro e w8 ⟨⟨a8, n8, c8, rfl, hD8, hn8, _⟩, b8⟩
      have P8 := P7.below b8 hLB7
      have hz5 := P8.cell 5
      have hg5 := P8.free 5
      simp only [List.getElem?_toArray, List.getElem?_cons_zero, List.getElem?_cons_succ] at hz5
      have s8 := b8.size
      have B8 : Below wr.heap.size wr w8 := HL.out.bel.trans (b8.mono hs7)
      have B9 := B8.setCell (p := ⟨LB, 5, none⟩) hlo (.slice a8 n8 c8)
      have P9 : BlkW (w8.setCell ⟨LB, 5, none⟩ (.slice a8 n8 c8)) LB #[.int .u8 y.kind, .int .u8 y.space, .string (bs y.name), .slice a' y.atts.length c', .string (bs y.text), .slice a8 n8 c8] 32 := P8.set_ 5 (.slice a8 n8 c8)
      obtain ⟨w9, hw9⟩ : ∃ w9, w8.setCell ⟨LB, 5, none⟩ (.slice a8 n8 c8) = w9 := ⟨_, rfl⟩
      have h89 : ∀ k, k ≠ LB → w9.heap[k]? = w8.heap[k]? := fun k hk => by rw [← hw9]; exact Below.heap_setCell w8 ⟨LB, 5, none⟩ (.slice a8 n8 c8) k hk
      have hz9 : w9.heap.size = w8.heap.size := by rw [← hw9]; simp
      rw [hw9] at B9 P9
      have fit : FitsD wr.heap.size W7.heap.size w8.heap.size d w9 ⟨y.kind, y.space, y.name, a', y.atts.length, c', y.text, a8, n8, c8⟩ (Dom.withKids y (Dom.wholeF d t k)) := by
        have inS : InS (fun k => (wr.heap.size ≤ k ∧ k < W7.heap.size) ∧ k ≠ LB) a' y.atts.length := by
          rcases HL.out.own with h | ⟨bb, cs, e, h⟩
          · exact .inl h
          · rcases HL.out.inS with h2 | h2
            · exact .inl h2
            · refine .inr fun p hp => ⟨h2 p hp, ?_⟩
              rw [e] at hp
              obtain rfl := Option.some.inj hp
              exact blk_ne h P7 (by decide)
        have ka : ∀ k, (wr.heap.size ≤ k ∧ k < W7.heap.size) ∧ k ≠ LB → w9.heap[k]? = W7.heap[k]? := fun k hk => by
          rw [h89 k hk.2, b8.block k hk.1.2]
        exact ⟨rfl, rfl, rfl, rfl, isA_in HL.out.atts inS ka, HL.out.inS, HL.out.own.keep inS ka, hD8.keep fun k q1 q2 => h89 k (by omega), HL.out.anil, hn8⟩
      have O9 := hO.out.below B9 (Nat.le_refl _)
      have hw9s := B9.size
      have BW := B9.alloc B9.size (.cells #[.int .u8 y.kind, .int .u8 y.space, .string (bs y.name), .slice a' y.atts.length c', .string (bs y.text), .slice a8 n8 c8] 32)
      have O10 := hid (O9.below ((Below.refl w9.heap.size w9).alloc (Nat.le_refl _) (.cells #[.int .u8 y.kind, .int .u8 y.space, .string (bs y.name), .slice a' y.atts.length c', .string (bs y.text), .slice a8 n8 c8] 32)) hw9s)
      have F10 := hid (fit.keep hs7 s8 fun k _ q2 => Below.heap_alloc w9 (.cells #[.int .u8 y.kind, .int .u8 y.space, .string (bs y.name), .slice a' y.atts.length c', .string (bs y.text), .slice a8 n8 c8] 32) k (by omega))
      have M1 := hid (show wr.heap.size ≤ W7.heap.size from hs7)
      have M2 := hid (show W7.heap.size ≤ w8.heap.size from s8)
      have M3 := hid (show w8.heap.size ≤ (w9.alloc (.cells #[.int .u8 y.kind, .int .u8 y.space, .string (bs y.name), .slice a' y.atts.length c', .string (bs y.text), .slice a8 n8 c8] 32)).heap.size by rw [World.size_alloc]; omega)
      have B10 := hid (hB.out.trans (BW.mono hB.out.size))
      have N10 : Hid (∀ j, j < 6 → (w9.alloc (.cells #[.int .u8 y.kind, .int .u8 y.space, .string (bs y.name), .slice a' y.atts.length c', .string (bs y.text), .slice a8 n8 c8] 32)).cell? ((⟨w8.heap.size, 0, none⟩ : Addr).add j) = (nodeRow ⟨y.kind, y.space, y.name, a', y.atts.length, c', y.text, a8, n8, c8⟩)[j]?) := hid (by
        intro j hj
        rw [← hz9, addr_add, Nat.zero_add, (BlkW.new w9 _ _).cell j]
        unfold nodeRow
        simp)
      have q0 := P9.cell 0
      have q1 := P9.cell 1
      have q2 := P9.cell 2
      have q3 := P9.cell 3
      have q4 := P9.cell 4
      have q5 := P9.cell 5
      simp only [List.getElem?_toArray, List.getElem?_cons_zero, List.getElem?_cons_succ] at q0 q1 q2 q3 q4 q5
      have HW9 := hid hw9
      have HLj := hid (show (NS.take j).length + 1 ≤ 1000000000 by rw [List.length_take]; omega)
      have hP8c := P8.cell 0
      have hP8c1 := P8.cell 1
      have hP8c2 := P8.cell 2
      have hP8c3 := P8.cell 3
      have hP8c4 := P8.cell 4
      simp only [List.getElem?_toArray, List.getElem?_cons_zero, List.getElem?_cons_succ] at hP8c hP8c1 hP8c2 hP8c3 hP8c4
      clear b8 hD8 B8 B9 P8 P9 h89 hz9 fit O9 BW hw9s hw9
      go_wp2_with (at_builtin; rw [HW9.out]; refine append_D rfl _ _ rfl w1.heap.size wr.heap.size d _ (NS.take j) rfl O10.out wr.heap.size W7.heap.size w8.heap.size (Nat.le_refl _) M1.out M2.out M3.out ⟨w8.heap.size, 0, none⟩ 1 ⟨y.kind, y.space, y.name, a', y.atts.length, c', y.text, a8, n8, c8⟩ (Dom.withKids y (Dom.wholeF d t k)) rfl N10.out F10.out HLj.out B10.out.size ?_; intro v' w11 hown hgr; have HO11 := hid hown; have HB11 := hid (B10.out.grown hgr B10.out.size (fun g hg => by (obtain ⟨rs, f', g', t', h1, _⟩ := O10.out; exact own_ge h1 g hg))); clear hown hgr)
      rw [← HTk.out] at HO11
      go_roundg (kn - (j + 1))
      case measure => omega
      case rel => exact ⟨j + 1, _, rfl, by omega, by go_num, HO11, HB11⟩
    · have d1 : decide (j < kn) = false := decide_eq_false hlt
      have hltI : ¬ (j : Int) < (kn : Int) := by omega
      have hO2 := hO.out
      rw [List.take_of_length_le (by have := HNL.out; omega)] at hO2
      obtain ⟨a', cap', hv, hI, hx⟩ := own_isD hO2
      have hcap := own_capD hO2 hv rfl
      rw [HNL.out] at hv hI hcap
      have hRR := hid (show NewD (d + 1) w1 wr (.returned v) NS ∧ Below w1.heap.size w1 wr from ⟨⟨a', kn, cap', by rw [hv], hI, hx, hcap⟩, hB.out⟩)
      clear hO2 hv hI hx hO hcap
      go_wp2
      go_ret
      obtain ⟨⟨a', n', c', h1, h2, h3, h4⟩, h5⟩ := hRR.out
      exact ⟨⟨a', n', c', h1, h2.wide HB1.out.size (Nat.le_refl _), h3, h4⟩, HB1.out.trans (h5.mono HB1.out.size)⟩
theorem wholeK_all {t : Dom.T} (hG : Dom.Good t) (hf : t.length ≤ 1000000) {r : Nat → Nat} (hr : ∀ k (p : Nat), Dom.parAt t k = (p : Nat) → r p < r k) {M : Nat} (hM : ∀ i, i < t.length → r i ≤ M) (hcost : ∀ i, Dom.cost (Dom.nodeAt t i).nd ≤ 500000) (hbare : ∀ i, Dom.bareP (Dom.nodeAt t i).nd = (Dom.nodeAt t i).nd) : ∀ d, WholeK t r M d
  | 0 => fun i _ h => by omega
  | d + 1 => wholeK_succ hG hf hr hM hcost d hbare (wholeK_all hG hf hr hM hcost hbare d)
/-- Whole, at any depth that is great enough: new memory, all apart. -/
theorem pwhole_any {t : Dom.T} (hG : Dom.Good t) (hf : t.length ≤ 1000000) (hcost : ∀ i, Dom.cost (Dom.nodeAt t i).nd ≤ 500000) (hbare : ∀ i, Dom.bareP (Dom.nodeAt t i).nd = (Dom.nodeAt t i).nd) : ∃ D, ∀ d, D < d → ∀ (i : Nat), i < t.length → ∀ (w : World) (base R : Nat) (S : Nat → Prop), TreeK w base R S t →
    Calls Try.prog 32 #[.pointer (some ⟨R, 0, none⟩), .int .i64 i] w fun e w' => NewD d w w' e (Dom.wholeF d t i) ∧ Below w.heap.size w w' := by
  obtain ⟨r, hr⟩ := hG.ends
  obtain ⟨M, hM⟩ := Dom.ranks_le r t.length
  exact ⟨M, fun d hd i hi w base R S hK => wholeK_all hG hf hr hM hcost hbare d i hi (by omega) w base R S hK⟩
end Go.Proofs.Ythbklcpjbeelhaa
namespace Go.Proofs.Ythbklcpjbeelhaa
open Go.RowKit Go.Lib
set_option maxRecDepth 100000
set_option linter.unusedVariables false

/-- Each node has what its kind has, and no more. -/
def BareT (t : Dom.T) : Prop := ∀ i, Dom.bareP (Dom.nodeAt t i).nd = (Dom.nodeAt t i).nd
theorem bareP_bare (x : Dom.N) : Dom.bareP (Dom.bareP x) = Dom.bareP x := by
  unfold Dom.bareP
  by_cases h : x.kind = 1
  · simp only [if_pos h]
    rw [if_pos (show (Dom.N.mk x.kind x.space x.name x.atts [] []).kind = 1 from h)]
    rfl
  · simp only [if_neg h]
    rw [if_neg (show ¬ (Dom.N.mk x.kind 0 [] [] x.text []).kind = 1 from h)]
    rfl
theorem BareT.same {t u : Dom.T} (h : BareT t) (hn : ∀ i, (Dom.nodeAt u i).nd = (Dom.nodeAt t i).nd) : BareT u := fun i => by rw [hn]; exact h i
theorem bareT_new : BareT Dom.tNew := fun i => by
  cases i with
  | zero => rfl
  | succ i =>
    rw [Dom.nodeAt_none (by simp [Dom.tNew])]
    rfl
theorem BareT.snoc {t : Dom.T} (h : BareT t) (x : Dom.N) : BareT (t ++ [⟨Dom.bareP x, -1, []⟩]) := fun i => by
  rw [Dom.nodeAt_snoc]
  split
  · exact bareP_bare x
  · exact h i
theorem BareT.make {t : Dom.T} (h : BareT t) (x : Dom.N) : BareT (Dom.makeT t x).1 := by
  unfold Dom.makeT
  split
  · exact h
  · exact h.snoc x
theorem cut_nd {t : Dom.T} (hG : Dom.Good t) (i : Int) : ∀ j, (Dom.nodeAt (Dom.cutT t i).1 j).nd = (Dom.nodeAt t j).nd := by
  intro j
  by_cases g : Dom.there t i ∧ 0 ≤ Dom.parAt t i.toNat
  · obtain ⟨⟨g1, g2⟩, g3⟩ := g
    have e : Dom.parAt t i.toNat = ((Dom.parAt t i.toNat).toNat : Nat) := by omega
    have := (Dom.cut_says hG e).2.nd j
    rwa [show ((i.toNat : Nat) : Int) = i by omega] at this
  · have e : Dom.cutT t i = (t, false) := by
      unfold Dom.cutT
      rw [if_pos]
      by_cases g1 : Dom.there t i
      · right
        have : ¬ 0 ≤ Dom.parAt t i.toNat := fun x => g ⟨g1, x⟩
        omega
      · exact .inl g1
    rw [e]
open Classical in
theorem put_nd {t : Dom.T} (hG : Dom.Good t) (p b i : Int) : ∀ j, (Dom.nodeAt (Dom.putT t p b i).1 j).nd = (Dom.nodeAt t j).nd := by
  intro j
  unfold Dom.putT
  split
  · rfl
  · rename_i g
    have hp : Dom.holds t p := Classical.byContradiction fun x => g (.inl x)
    have hi : Dom.there t i := Classical.byContradiction fun x => g (.inr (.inl x))
    have hup : ¬ Dom.Up t p.toNat i.toNat := fun x => g (.inr (.inr (.inr (.inr (.inl x)))))
    have C := Dom.cut_is hG (show i.toNat < t.length by have := hi.2; have := hi.1; omega)
    rw [show ((i.toNat : Nat) : Int) = i by have := hi.1; omega] at C
    have P := Dom.ins_says (t := (Dom.cutT t i).1) (i := i.toNat) (p := p.toNat) (Dom.placeL (Dom.kidsAt (Dom.cutT t i).1 p.toNat) b).toNat (by have := C.2.1; have := hi.1; have := hi.2; omega) (by have := C.2.1; have := hp.1.1; have := hp.1.2; omega) (fun e => hup (by rw [e]; exact .refl _))
    have := (P.nd j).trans (cut_nd hG i j)
    unfold Dom.insT at this
    rw [show ((p.toNat : Nat) : Int) = p by have := hp.1.1; omega] at this
    exact this
open Classical in
theorem move_nd {t : Dom.T} (hG : Dom.Good t) (a b : Int) : ∀ j, (Dom.nodeAt (Dom.moveT t a b).1 j).nd = (Dom.nodeAt t j).nd := by
  intro j
  unfold Dom.moveT
  split
  · rfl
  · rename_i g
    have ha : Dom.there t a := Classical.byContradiction fun x => g (.inl x)
    have hb : Dom.holds t b := Classical.byContradiction fun x => g (.inr (.inl x))
    have hup : ¬ Dom.Up t b.toNat a.toNat := fun x => g (.inr (.inr (.inr x)))
    have M := Dom.mov_says hG (a := a.toNat) (b := b.toNat) (by have := ha.1; have := ha.2; omega) (by have := hb.1.1; have := hb.1.2; omega) (fun e => hup (by rw [e]; exact .refl _))
    have := M.nd j
    unfold Dom.movT at this
    rw [show ((b.toNat : Nat) : Int) = b by have := hb.1.1; omega] at this
    exact this
theorem BareT.text {t : Dom.T} (h : BareT t) {x : Nat} (hx : x < t.length) (hk : Dom.kindAt t x = 2) (s : List UInt8) : BareT (Dom.upd t x fun y => Dom.addText y s) := fun i => by
  rw [Dom.upd_at _ _ _ hx]
  split
  · have h1 := h x
    unfold Dom.kindAt at hk
    unfold Dom.addText
    generalize (Dom.nodeAt t x).nd = y at *
    cases y with
    | mk k sp nm at_ tx kd =>
      have hk' : k = 2 := hk
      subst hk'
      unfold Dom.bareP at h1 ⊢
      rw [if_neg (by show ¬ (2 = 1); omega)] at h1
      rw [if_neg (by show ¬ (2 = 1); omega)]
      have h2 : Dom.N.mk 2 0 [] [] tx [] = Dom.N.mk 2 sp nm at_ tx kd := h1
      injection h2 with _ e1 e2 e3 _ e5
      subst e1
      subst e2
      subst e3
      subst e5
      rfl
  · exact h i
theorem BareT.write {t : Dom.T} (h : BareT t) (hG : Dom.Good t) (p b : Int) (s : List UInt8) : BareT (Dom.writeT t p b s).1 := by
  by_cases hT : Takes t p b
  · obtain ⟨n, rfl, hp, _⟩ := Dom.holds_nat hT.1
    by_cases hs : s = []
    · subst hs
      unfold Dom.writeT
      split
      · exact h
      · rw [if_pos rfl]
        exact h
    · obtain ⟨A, B, h1, _, _, ⟨x, _, hx, hk, e⟩ | ⟨_, e⟩⟩ := write_split hG hp hT hs
      · rw [e]
        exact h.text (hG.kid n x (by rw [h1]; exact List.mem_append_left _ hx)).1 hk s
      · rw [e]
        exact (h.snoc _).same (put_nd (Dom.good_snoc hG _ (by rw [Dom.bareP_kind]; show 1 ≤ 2 ∧ 2 ≤ 3; omega)) _ _ _)
  · unfold Dom.writeT
    rw [if_pos]
    · exact h
    · by_cases g : Dom.holds t p
      · obtain ⟨n, rfl, hp, _⟩ := Dom.holds_nat g
        right
        rw [show ((n : Int)).toNat = n by omega]
        have : ¬ 0 ≤ Dom.placeL (Dom.kidsAt t n) b := fun q => hT ⟨g, (placeL_takes hG hp).2 q⟩
        omega
      · exact .inl g
/-- The program's tree. -/
def DomK (w : World) (base R : Nat) (S : Nat → Prop) (t : Dom.T) : Prop := TreeK w base R S t ∧ BareT t
theorem TurnedK.domK {w w' : World} {base R : Nat} {S : Nat → Prop} {t : Dom.T} (h : TurnedK w w' base R S t) (hb : BareT t) : TurnedP DomK w w' base R S t := by
  obtain ⟨S', h1, h2⟩ := h
  exact ⟨S', ⟨h1, hb⟩, h2⟩
theorem Fit.len6 {t : Dom.T} (h : Fit t) : t.length ≤ 1000000 := by have := h.few; omega
theorem domK_all : DomC (fun _ => True) DomK where
  keep := fun h hT hd => ⟨h.1.keep hT hd, h.2⟩
  inb := fun h => h.1.inb
  new := fun w base _ hb => (pnew_any w base hb).mono fun e w' ⟨R, h1, h2⟩ => ⟨R, h1, h2.domK bareT_new⟩
  make := fun w base R S t x aa an ac ka kn kc _ h hG hF hb hA hnil hc => (pmake_any w base R S t h.1 hG hF.len6 hb x aa an ac ka kn kc hA hc).mono fun e w' ⟨h1, h2⟩ => ⟨h1, h2.domK (h.2.make x)⟩
  copy := fun w base R S t i _ h hG hF hb => (pcopy_any w base R S t i h.1 hG hF.len6 hb hF.light).mono fun e w' ⟨h1, h2⟩ => ⟨h1, h2.domK (by unfold Dom.copyT; split; exact h.2; exact h.2.make _)⟩
  put := fun w base R S t p b i _ h hG hF hb => (pput_any w base R S t p b i h.1 hG hF.len6).mono fun e w' ⟨h1, h2⟩ => ⟨h1, h2.domK (h.2.same (put_nd hG p b i))⟩
  cut := fun w base R S t i _ h hG hF hb => (pcut_any w base R S t i h.1 hG hF.len6).mono fun e w' ⟨h1, h2⟩ => ⟨h1, h2.domK (h.2.same (cut_nd hG i))⟩
  move := fun w base R S t a b _ h hG hF hb => (pmove_any w base R S t a b h.1 hG hF.len6).mono fun e w' ⟨h1, h2⟩ => ⟨h1, h2.domK (h.2.same (move_nd hG a b))⟩
  write := fun w base R S t p b s _ h hG hF hb hs => (pwrite_any w base R S t p b s h.1 hG (by have := hF.few; omega) hb hs hF.text).mono fun e w' ⟨h1, h2⟩ => ⟨h1, h2.domK (h.2.write hG p b s)⟩
  parent := fun w base R S t i _ h hG hF => by
    obtain ⟨g, cap, rs, hR⟩ := h.1.read hG hF.len6
    exact (pparent_any w base R g cap S rs t i hR).mono fun e w' ⟨h1, h2⟩ => ⟨h1, by rw [h2]; exact Below.refl _ _⟩
  kids := fun w base R S t i _ h hG hF => by
    obtain ⟨g, cap, rs, hR⟩ := h.1.read hG hF.len6
    exact pkids_any w base R g cap S rs t i hR hG
  whole := fun t hG hF => by
    by_cases hb : BareT t
    · obtain ⟨D, hD⟩ := pwhole_any hG hF.len6 hF.light hb
      exact ⟨D, fun d hd w base R S _ h => hD d hd 0 (List.length_pos_iff.2 hG.some) w base R S h.1⟩
    · exact ⟨0, fun d _ w base R S _ h => absurd h.2 hb⟩
end Go.Proofs.Ythbklcpjbeelhaa
