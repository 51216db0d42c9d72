/- Walks over the reference of layer 10: Whole. -/
import Derived.Test.YthbklcpjbeelhaaNodeLend
import Derived.Test.YthbklcpjbeelhaaTreeGrow
namespace Go.Proofs.Ythbklcpjbeelhaa
open Go.RowKit Go.Lib
set_option maxRecDepth 100000
set_option linter.unusedVariables false

theorem TreeR.below {w w' : World} {R g cap : Nat} {t : Dom.T} (h : TreeR w R g cap t) (hb : Below w.heap.size w w') : TreeR w' R g cap t :=
  ⟨cell_up h.top hb, fun i x hx => by
    obtain ⟨aa, an, ac, ka, kn, kc, X⟩ := h.at_ i x hx
    exact ⟨aa, an, ac, ka, kn, kc, cell_up X.c0 hb, cell_up X.c1 hb, cell_up X.c2 hb, cell_up X.c3 hb, cell_up X.c4 hb, cell_up X.c5 hb, cell_up X.c6 hb, cell_up X.c7 hb, X.atts.below hb, X.kids.below hb, X.kle, X.anil, X.knil⟩, h.few⟩
/-- A node without kids in a block of its own, its attributes in new memory. -/
structure LocN (wr : World) (LB : Nat) (y : Dom.N) (a' : Option Addr) (c' : Nat) (W : World) : Prop where
  blk : BlkW W LB #[.int .u8 y.kind, .int .u8 y.space, .string (bs y.name), .slice a' y.atts.length c', .string (bs y.text), .slice none 0 0] 32
  lo : wr.heap.size ≤ LB
  atts : IsA W a' y.atts.length y.atts
  inS : InS (fun k => wr.heap.size ≤ k ∧ k < W.heap.size) a' y.atts.length
  own : OwnB W 67 a' y.atts.length
  anil : a' = none → c' = 0
  bel : Below wr.heap.size wr W
theorem locA {wr w5 : World} {y : Dom.N} {a' : Option Addr} {c' : Nat} (b5 : Below (wr.alloc (.cells #[.int .u8 0, .int .u8 0, .string ⟨#[]⟩, .slice none 0 0, .string ⟨#[]⟩, .slice none 0 0] 32)).drew.heap.size (wr.alloc (.cells #[.int .u8 0, .int .u8 0, .string ⟨#[]⟩, .slice none 0 0, .string ⟨#[]⟩, .slice none 0 0] 32)).drew w5) (hI : IsA w5 a' y.atts.length y.atts) (hn : a' = none → c' = 0) (hty : TypB w5 a') (hge : ∀ p, a' = some p → (wr.alloc (.cells #[.int .u8 0, .int .u8 0, .string ⟨#[]⟩, .slice none 0 0, .string ⟨#[]⟩, .slice none 0 0] 32)).drew.heap.size ≤ p.block) (hob : OwnB w5 67 a' y.atts.length) :
    BlkW w5 wr.heap.size #[.int .u8 0, .int .u8 0, .string ⟨#[]⟩, .slice none 0 0, .string ⟨#[]⟩, .slice none 0 0] 32 ∧ ∃ W7, ((((((w5.setCell ⟨wr.heap.size, 0, none⟩ (.int .u8 y.kind)).setCell ⟨wr.heap.size, 1, none⟩ (.int .u8 y.space)).setCell ⟨wr.heap.size, 2, none⟩ (.string (bs y.name))).setCell ⟨wr.heap.size, 3, none⟩ (.slice a' y.atts.length c')).setCell ⟨wr.heap.size, 4, none⟩ (.string (bs y.text))).setCell ⟨wr.heap.size, 5, none⟩ (.slice none 0 0)) = W7 ∧ LocN wr wr.heap.size y a' c' W7 := by
  have hs : (wr.alloc (.cells #[.int .u8 0, .int .u8 0, .string ⟨#[]⟩, .slice none 0 0, .string ⟨#[]⟩, .slice none 0 0] 32)).drew.heap.size = wr.heap.size + 1 := World.size_alloc _ _
  have P : BlkW w5 wr.heap.size #[.int .u8 0, .int .u8 0, .string ⟨#[]⟩, .slice none 0 0, .string ⟨#[]⟩, .slice none 0 0] 32 := (show BlkW (wr.alloc (.cells #[.int .u8 0, .int .u8 0, .string ⟨#[]⟩, .slice none 0 0, .string ⟨#[]⟩, .slice none 0 0] 32)).drew wr.heap.size #[.int .u8 0, .int .u8 0, .string ⟨#[]⟩, .slice none 0 0, .string ⟨#[]⟩, .slice none 0 0] 32 from BlkW.new wr #[.int .u8 0, .int .u8 0, .string ⟨#[]⟩, .slice none 0 0, .string ⟨#[]⟩, .slice none 0 0] 32).below b5 (by rw [hs]; exact Nat.lt_succ_self _)
  have h0 : Below wr.heap.size wr (wr.alloc (.cells #[.int .u8 0, .int .u8 0, .string ⟨#[]⟩, .slice none 0 0, .string ⟨#[]⟩, .slice none 0 0] 32)).drew := ((Below.refl wr.heap.size wr).alloc (Nat.le_refl _) _).drew
  have h5 := h0.trans (b5.mono h0.size)
  have P7 := (((((P.set_ 0 (.int .u8 y.kind)).set_ 1 (.int .u8 y.space)).set_ 2 (.string (bs y.name))).set_ 3 (.slice a' y.atts.length c')).set_ 4 (.string (bs y.text))).set_ 5 (.slice none 0 0)
  have hb7 := (((((h5.setCell (p := ⟨wr.heap.size, 0, none⟩) (Nat.le_refl _) (.int .u8 y.kind)).setCell (p := ⟨wr.heap.size, 1, none⟩) (Nat.le_refl _) (.int .u8 y.space)).setCell (p := ⟨wr.heap.size, 2, none⟩) (Nat.le_refl _) (.string (bs y.name))).setCell (p := ⟨wr.heap.size, 3, none⟩) (Nat.le_refl _) (.slice a' y.atts.length c')).setCell (p := ⟨wr.heap.size, 4, none⟩) (Nat.le_refl _) (.string (bs y.text))).setCell (p := ⟨wr.heap.size, 5, none⟩) (Nat.le_refl _) (.slice none 0 0)
  have hk : ∀ k, k ≠ wr.heap.size → (((((((w5.setCell ⟨wr.heap.size, 0, none⟩ (.int .u8 y.kind)).setCell ⟨wr.heap.size, 1, none⟩ (.int .u8 y.space)).setCell ⟨wr.heap.size, 2, none⟩ (.string (bs y.name))).setCell ⟨wr.heap.size, 3, none⟩ (.slice a' y.atts.length c')).setCell ⟨wr.heap.size, 4, none⟩ (.string (bs y.text))).setCell ⟨wr.heap.size, 5, none⟩ (.slice none 0 0))).heap[k]? = w5.heap[k]? := fun k hk => by
    rw [Below.heap_setCell _ _ _ _ hk, Below.heap_setCell _ _ _ _ hk, Below.heap_setCell _ _ _ _ hk, Below.heap_setCell _ _ _ _ hk, Below.heap_setCell _ _ _ _ hk, Below.heap_setCell _ _ _ _ hk]
  have hsz : (((((((w5.setCell ⟨wr.heap.size, 0, none⟩ (.int .u8 y.kind)).setCell ⟨wr.heap.size, 1, none⟩ (.int .u8 y.space)).setCell ⟨wr.heap.size, 2, none⟩ (.string (bs y.name))).setCell ⟨wr.heap.size, 3, none⟩ (.slice a' y.atts.length c')).setCell ⟨wr.heap.size, 4, none⟩ (.string (bs y.text))).setCell ⟨wr.heap.size, 5, none⟩ (.slice none 0 0))).heap.size = w5.heap.size := by simp
  have hne : InS (fun k => k ≠ wr.heap.size) a' y.atts.length := .inr fun p hp => by have := hge p hp; omega
  refine ⟨P, _, rfl, P7, Nat.le_refl _, isA_in hI hne hk, .inr fun p hp => ⟨by have := hge p hp; omega, by rw [hsz]; exact hty.lt p hp⟩, hob.keep hne hk, hn, hb7⟩
theorem locB {wr w5 : World} {y : Dom.N} {a' : Option Addr} {c' : Nat} (b5 : Below wr.drew.heap.size wr.drew w5) (hI : IsA w5 a' y.atts.length y.atts) (hn : a' = none → c' = 0) (hty : TypB w5 a') (hge : ∀ p, a' = some p → wr.drew.heap.size ≤ p.block) (hob : OwnB w5 67 a' y.atts.length) :
    ∃ W7, w5.alloc (.cells #[.int .u8 y.kind, .int .u8 y.space, .string (bs y.name), .slice a' y.atts.length c', .string (bs y.text), .slice none 0 0] 32) = W7 ∧ LocN wr w5.heap.size y a' c' W7 := by
  have h5 : Below wr.heap.size wr w5 := (Below.refl wr.heap.size wr).drew.trans b5
  have al := (Below.refl w5.heap.size w5).alloc (Nat.le_refl _) (.cells #[.int .u8 y.kind, .int .u8 y.space, .string (bs y.name), .slice a' y.atts.length c', .string (bs y.text), .slice none 0 0] 32)
  have hne : InS (fun k => k < w5.heap.size) a' y.atts.length := .inr fun p hp => hty.lt p hp
  exact ⟨_, rfl, BlkW.new w5 _ _, h5.size, hI.below al, .inr fun p hp => ⟨hge p hp, by have := hty.lt p hp; have := al.size; omega⟩, hob.keep hne fun k hk => al.block k hk, hn, h5.alloc h5.size _⟩
/-- What Whole is known to tell of nodes that are at most d deep. -/
def WholeC (t : Dom.T) (r : Nat → Nat) (M d : Nat) : Prop := ∀ (i : Nat), i < t.length → M - r i < d → ∀ (w : World) (R g cap : Nat), TreeR w R g cap t →
  Calls Try.prog 54 #[.pointer (some ⟨R, 0, none⟩), .int .i64 i] w fun e w' => (∃ a' n c', e = .returned (.slice a' n c') ∧ IsD d w' w.heap.size w'.heap.size a' n (Dom.wholeF d t i) ∧ (a' = none → c' = 0)) ∧ Below w.heap.size w w'
set_option maxHeartbeats 16000000 in
theorem whole_succ {t : Dom.T} (hG : Dom.Good t) {r : Nat → Nat} (hr : ∀ k (p : Nat), Dom.parAt t k = (p : Nat) → r p < r k) {M : Nat} (hM : ∀ i, i < t.length → r i ≤ M) (hat : ∀ i, (Dom.nodeAt t i).nd.atts.length ≤ 1000000000) (d : Nat) (IH : WholeC t r M d) : WholeC t r M (d + 1) := by
  intro i hi hd w R g cap hR
  have HT := there_any w R g cap t i hR
  rw [decide_eq_true (show Dom.there t (i : Nat) from ⟨by omega, by omega⟩)] at HT
  have HT := hid HT
  have k1 := hR.top
  have hf := hR.few
  obtain ⟨aa, an, ac, ka, kn, kc, X⟩ := hR.at_ i _ (node_get hi)
  have x7 := X.c7
  have hZ := X.kids
  change IsZ w ka kn (Dom.kidsAt t i) at hZ
  have hfew := good_few hG i
  have HKID := hid (show ∀ k ∈ Dom.kidsAt t i, k < t.length ∧ M - r k < d from fun k hk => by
    obtain ⟨q1, q2⟩ := hG.kid i k hk
    have := hr k i q2
    have := hM k q1
    exact ⟨q1, by omega⟩)
  obtain ⟨L, hL⟩ : ∃ L, Dom.kidsAt t i = L := ⟨_, rfl⟩
  have hW : Dom.wholeF (d + 1) t i = L.map fun k => Dom.withKids (Dom.bareP (Dom.nodeAt t k).nd) (Dom.wholeF d t k) := by rw [Dom.wholeF, hL]
  rw [hW]
  rw [hL] at hZ HKID hfew
  obtain ⟨NS, hNS⟩ : ∃ NS, (L.map fun k => Dom.withKids (Dom.bareP (Dom.nodeAt t k).nd) (Dom.wholeF d t k)) = NS := ⟨_, rfl⟩
  rw [hNS]
  have HNS := hid hNS
  have hkn := hZ.1
  have HZ := hid hZ
  have HLN := hid hkn
  have HNL := hid (show NS.length = kn by rw [← hNS, List.length_map]; exact hkn)
  have HIH := hid IH
  have HRR := hid hR
  have HAT := hid hat
  obtain ⟨n, hn⟩ : ∃ n, List.length t = n := ⟨_, rfl⟩
  rw [hn] at k1 hi hf hfew HKID
  have HN := hid hn
  have hi3 : (i : Int) < (n : Int) := by omega
  have z2 : ((i : Int)).toNat = i := by omega
  have hkl : kn ≤ 1000000 := by omega
  clear X hR hG hL hNS hW hZ IH hat hr hM hn hd hkn
  go_enter Try.func54, Try.ntmps54
  go_wp2_with fail
  refine (HT.out).mono ?_
  rintro e w1 ⟨rfl, rfl⟩
  go_wp2
  go_loopg [6, 8] kn (fun gg ov iv wr => ∃ (j : Nat) (v : Value), v = ov ∧ j + gg = kn ∧ iv = .int .i64 j ∧ Hid (OwnD wr w1.heap.size wr.heap.size d v (NS.take j)) ∧ Hid (Below w1.heap.size w1 wr))
  case atStart => exact ⟨0, _, rfl, by omega, rfl, hid (OwnD.nil _ _ _ (Nat.le_refl _)), hid (Below.refl _ _)⟩
  case round =>
    obtain ⟨j, v, rfl, hj, rfl, hO, hB⟩ := hrel
    by_cases hlt : j < kn
    · have d1 : decide (j < kn) = true := decide_eq_true hlt
      have hltI : (j : Int) < (kn : Int) := by omega
      obtain ⟨k, hk⟩ : ∃ k, L[j]? = some k := ⟨_, List.getElem?_eq_getElem (by have := HLN.out; omega)⟩
      obtain ⟨hkn, hkd⟩ := HKID.out k (List.mem_of_getElem? hk)
      obtain ⟨b0, o0, rfl, hatZ⟩ := HZ.out.2.resolve_left (by omega)
      have cz := hatZ j k hk
      obtain ⟨aa, an, ac, ka2, kn2, kc2, Y⟩ := HRR.out.at_ k _ (node_get (by rw [HN.out]; exact hkn))
      obtain ⟨x, hx⟩ : ∃ x, (Dom.nodeAt t k).nd = x := ⟨_, rfl⟩
      have hat2 := HAT.out k
      have yA := Y.atts
      have yN := Y.anil
      have y0 := Y.c0
      have y1 := Y.c1
      have y2 := Y.c2
      have y3 := Y.c3
      have y4 := Y.c4
      have y5 := Y.c5
      rw [hx] at hat2 yA y0 y1 y2 y4
      have hya := yA.1
      have HBR := hid fun W (hW : Below w1.heap.size w1 W) => rbare_any x aa an ac none 0 0 W (yA.below hW) yN (by omega)
      obtain ⟨y, hy⟩ : ∃ y, Dom.bareP x = y := ⟨_, rfl⟩
      rw [hy] at HBR
      obtain ⟨NM, hNM⟩ : ∃ NM, bs x.name = NM := ⟨_, rfl⟩
      obtain ⟨TX, hTX⟩ : ∃ TX, bs x.text = TX := ⟨_, rfl⟩
      obtain ⟨K, hK⟩ : ∃ K, x.kind = K := ⟨_, rfl⟩
      obtain ⟨SP, hSP⟩ : ∃ SP, x.space = SP := ⟨_, rfl⟩
      rw [hNM, hTX, hK, hSP] at HBR
      rw [hK] at y0
      rw [hSP] at y1
      rw [hNM] at y2
      rw [hTX] at y4
      have HTk : Hid (NS.take (j + 1) = NS.take j ++ [Dom.withKids y (Dom.wholeF d t k)]) := hid (by
        rw [List.take_add_one, ← HNS.out, List.getElem?_map, hk]
        show _ ++ [Dom.withKids (Dom.bareP (Dom.nodeAt t k).nd) (Dom.wholeF d t k)] = _
        rw [hx, hy])
      have HIK := hid fun W hW => HIH.out k (by rw [HN.out]; exact hkn) hkd W R g cap hW
      have B0 := hB.out.drew
      have u1 : ∀ W, Below w1.heap.size w1 W → W.cell? ⟨R, 0, none⟩ = some (.slice (some ⟨g, 0, none⟩) n cap) := fun W hW => cell_up k1 hW
      have u2 : ∀ W, Below w1.heap.size w1 W → W.cell? ⟨b0, o0 + j, none⟩ = some (.int .i64 (k : Nat)) := fun W hW => cell_up cz hW
      have u3 : ∀ W, Below w1.heap.size w1 W → W.cell? ⟨g, k * 8, none⟩ = some (.int .u8 K) := fun W hW => cell_up y0 hW
      have u4 : ∀ W, Below w1.heap.size w1 W → W.cell? ⟨g, k * 8 + 1, none⟩ = some (.int .u8 SP) := fun W hW => cell_up y1 hW
      have u5 : ∀ W, Below w1.heap.size w1 W → W.cell? ⟨g, k * 8 + 2, none⟩ = some (.string NM) := fun W hW => cell_up y2 hW
      have u6 : ∀ W, Below w1.heap.size w1 W → W.cell? ⟨g, k * 8 + 3, none⟩ = some (.slice aa an ac) := fun W hW => cell_up y3 hW
      have u7 : ∀ W, Below w1.heap.size w1 W → W.cell? ⟨g, k * 8 + 4, none⟩ = some (.string TX) := fun W hW => cell_up y4 hW
      have u8 : ∀ W, Below w1.heap.size w1 W → W.cell? ⟨g, k * 8 + 5, none⟩ = some (.slice none 0 0) := fun W hW => cell_up y5 hW
      have B0' := hB.out
      have B1 := (B0'.alloc B0'.size (.cells #[.int .u8 0, .int .u8 0, .string ⟨#[]⟩, .slice none 0 0, .string ⟨#[]⟩, .slice none 0 0] 32)).drew
      have j1 : (0 : Int) ≤ (j : Int) := by omega
      have j3 : ((j : Int)).toNat = j := by omega
      have k1' : (0 : Int) ≤ (k : Int) := by omega
      have k2' : (k : Int) < (n : Int) := by omega
      have k3' : ((k : Int)).toNat = k := by omega
      clear Y hatZ cz yA yN y0 y1 y2 y3 y4 y5 hx hy hNM hTX hK hSP hk hya hat2
      go_wp2
      go_region_law (refine step_call rfl rfl (enters_of Try.func38 (by kernel_rfl) rfl) ?_
                     refine (HBR.out _ (by assumption)).mono ?_
                     rintro e w5 ⟨⟨a', c', rfl, hI, hS, hn, hty, hge, hob⟩, b5⟩
                     refine ⟨_, rfl, ?_⟩
                     first
                       | (have hX := locA b5 hI hn hty hge hob
                          obtain ⟨P5, W7, hW7, hL⟩ := hX
                          have z0 := P5.cell 0
                          have z1 := P5.cell 1
                          have z2 := P5.cell 2
                          have z3 := P5.cell 3
                          have z4 := P5.cell 4
                          have z5 := P5.cell 5
                          have g0 := P5.free 0
                          have g1 := P5.free 1
                          have g2 := P5.free 2
                          have g3 := P5.free 3
                          have g4 := P5.free 4
                          have g5 := P5.free 5
                          simp only [List.getElem?_toArray, List.getElem?_cons_zero, List.getElem?_cons_succ] at z0 z1 z2 z3 z4 z5
                          have HL := hid hL
                          have HW7 := hid hW7
                          clear P5 hL hW7)
                       | (have hX := locB b5 hI hn hty hge hob
                          obtain ⟨W7, hW7, hL⟩ := hX
                          have HL := hid hL
                          have HW7 := hid hW7
                          clear hL hW7)
                     have HB7 := hid (B0'.trans (HL.out.bel.mono B0'.size))
                     clear hI hS hn hty hge hob b5)
      all_goals rw [HW7.out]
      all_goals clear HW7
      all_goals first
        | (obtain ⟨LB, hLB⟩ : ∃ LB, w5.heap.size = LB := ⟨_, rfl⟩
           rw [hLB] at HL ⊢
           clear hLB)
        | (obtain ⟨LB, hLB⟩ : ∃ LB, wr.heap.size = LB := ⟨_, rfl⟩
           have HL2 : Hid (LocN wr LB y a' c' W7) := by rw [← hLB]; exact HL
           rw [hLB]
           clear hLB HL
           have HL := HL2
           clear HL2)
      all_goals have P7 := HL.out.blk
      all_goals have hlo := HL.out.lo
      all_goals have hLB7 := P7.lt
      all_goals have hs7 := HL.out.bel.size
      all_goals have cz7 := u2 _ HB7.out
      all_goals clear u1 u2 u3 u4 u5 u6 u7 u8 B0 B1
      all_goals go_wp2_with fail
      all_goals refine (HIK.out _ (HRR.out.below HB7.out)).mono ?_
      all_goals rintro e w8 ⟨⟨a8, n8, c8, rfl, hD8, hn8⟩, b8⟩
      all_goals
        have P8 := P7.below b8 hLB7
        have hz5 := P8.cell 5
        have hg5 := P8.free 5
        simp only [List.getElem?_toArray, List.getElem?_cons_zero, List.getElem?_cons_succ] at hz5
        have s8 := b8.size
        have B8 : Below wr.heap.size wr w8 := HL.out.bel.trans (b8.mono hs7)
        have B9 := B8.setCell (p := ⟨LB, 5, none⟩) hlo (.slice a8 n8 c8)
        have P9 : BlkW (w8.setCell ⟨LB, 5, none⟩ (.slice a8 n8 c8)) LB #[.int .u8 y.kind, .int .u8 y.space, .string (bs y.name), .slice a' y.atts.length c', .string (bs y.text), .slice a8 n8 c8] 32 := P8.set_ 5 (.slice a8 n8 c8)
        obtain ⟨w9, hw9⟩ : ∃ w9, w8.setCell ⟨LB, 5, none⟩ (.slice a8 n8 c8) = w9 := ⟨_, rfl⟩
        have h89 : ∀ k, k ≠ LB → w9.heap[k]? = w8.heap[k]? := fun k hk => by rw [← hw9]; exact Below.heap_setCell w8 ⟨LB, 5, none⟩ (.slice a8 n8 c8) k hk
        have hz9 : w9.heap.size = w8.heap.size := by rw [← hw9]; simp
        rw [hw9] at B9 P9
        have fit : FitsD wr.heap.size W7.heap.size w8.heap.size d w9 ⟨y.kind, y.space, y.name, a', y.atts.length, c', y.text, a8, n8, c8⟩ (Dom.withKids y (Dom.wholeF d t k)) := by
          have inS : InS (fun k => (wr.heap.size ≤ k ∧ k < W7.heap.size) ∧ k ≠ LB) a' y.atts.length := by
            rcases HL.out.own with h | ⟨bb, cs, e, h⟩
            · exact .inl h
            · rcases HL.out.inS with h2 | h2
              · exact .inl h2
              · refine .inr fun p hp => ⟨h2 p hp, ?_⟩
                rw [e] at hp
                obtain rfl := Option.some.inj hp
                exact blk_ne h P7 (by decide)
          have ka : ∀ k, (wr.heap.size ≤ k ∧ k < W7.heap.size) ∧ k ≠ LB → w9.heap[k]? = W7.heap[k]? := fun k hk => by
            rw [h89 k hk.2, b8.block k hk.1.2]
          exact ⟨rfl, rfl, rfl, rfl, isA_in HL.out.atts inS ka, HL.out.inS, HL.out.own.keep inS ka, hD8.keep fun k q1 q2 => h89 k (by omega), HL.out.anil, hn8⟩
        have O9 := hO.out.below B9 (Nat.le_refl _)
        have hw9s := B9.size
        have BW := B9.alloc B9.size (.cells #[.int .u8 y.kind, .int .u8 y.space, .string (bs y.name), .slice a' y.atts.length c', .string (bs y.text), .slice a8 n8 c8] 32)
        have O10 := hid (O9.below ((Below.refl w9.heap.size w9).alloc (Nat.le_refl _) (.cells #[.int .u8 y.kind, .int .u8 y.space, .string (bs y.name), .slice a' y.atts.length c', .string (bs y.text), .slice a8 n8 c8] 32)) hw9s)
        have F10 := hid (fit.keep hs7 s8 fun k _ q2 => Below.heap_alloc w9 (.cells #[.int .u8 y.kind, .int .u8 y.space, .string (bs y.name), .slice a' y.atts.length c', .string (bs y.text), .slice a8 n8 c8] 32) k (by omega))
        have M1 := hid (show wr.heap.size ≤ W7.heap.size from hs7)
        have M2 := hid (show W7.heap.size ≤ w8.heap.size from s8)
        have M3 := hid (show w8.heap.size ≤ (w9.alloc (.cells #[.int .u8 y.kind, .int .u8 y.space, .string (bs y.name), .slice a' y.atts.length c', .string (bs y.text), .slice a8 n8 c8] 32)).heap.size by rw [World.size_alloc]; omega)
        have B10 := hid (hB.out.trans (BW.mono hB.out.size))
        have N10 : Hid (∀ j, j < 6 → (w9.alloc (.cells #[.int .u8 y.kind, .int .u8 y.space, .string (bs y.name), .slice a' y.atts.length c', .string (bs y.text), .slice a8 n8 c8] 32)).cell? ((⟨w8.heap.size, 0, none⟩ : Addr).add j) = (nodeRow ⟨y.kind, y.space, y.name, a', y.atts.length, c', y.text, a8, n8, c8⟩)[j]?) := hid (by
          intro j hj
          rw [← hz9, addr_add, Nat.zero_add, (BlkW.new w9 _ _).cell j]
          unfold nodeRow
          simp)
        have q0 := P9.cell 0
        have q1 := P9.cell 1
        have q2 := P9.cell 2
        have q3 := P9.cell 3
        have q4 := P9.cell 4
        have q5 := P9.cell 5
        simp only [List.getElem?_toArray, List.getElem?_cons_zero, List.getElem?_cons_succ] at q0 q1 q2 q3 q4 q5
        have HW9 := hid hw9
        have HLj := hid (show (NS.take j).length + 1 ≤ 1000000000 by rw [List.length_take]; omega)
        have hP8c := P8.cell 0
        have hP8c1 := P8.cell 1
        have hP8c2 := P8.cell 2
        have hP8c3 := P8.cell 3
        have hP8c4 := P8.cell 4
        simp only [List.getElem?_toArray, List.getElem?_cons_zero, List.getElem?_cons_succ] at hP8c hP8c1 hP8c2 hP8c3 hP8c4
        clear b8 hD8 B8 B9 P8 P9 h89 hz9 fit O9 BW hw9s hw9
        go_wp2_with (at_builtin; rw [HW9.out]; refine append_D rfl _ _ rfl w1.heap.size wr.heap.size d _ (NS.take j) rfl O10.out wr.heap.size W7.heap.size w8.heap.size (Nat.le_refl _) M1.out M2.out M3.out ⟨w8.heap.size, 0, none⟩ 1 ⟨y.kind, y.space, y.name, a', y.atts.length, c', y.text, a8, n8, c8⟩ (Dom.withKids y (Dom.wholeF d t k)) rfl N10.out F10.out HLj.out B10.out.size ?_; intro v' w11 hown hgr; have HO11 := hid hown; have HB11 := hid (B10.out.grown hgr B10.out.size (fun g hg => by (obtain ⟨rs, f', g', t', h1, _⟩ := O10.out; exact own_ge h1 g hg))); clear hown hgr)
        rw [← HTk.out] at HO11
        go_roundg (kn - (j + 1))
        case measure => omega
        case rel => exact ⟨j + 1, _, rfl, by omega, by go_num, HO11, HB11⟩
    · have d1 : decide (j < kn) = false := decide_eq_false hlt
      have hltI : ¬ (j : Int) < (kn : Int) := by omega
      have hO2 := hO.out
      rw [List.take_of_length_le (by have := HNL.out; omega)] at hO2
      obtain ⟨a', cap', hv, hI, hx⟩ := own_isD hO2
      rw [HNL.out] at hv hI
      have hRR := hid (show (∃ a' n c', v = .slice a' n c' ∧ IsD (d + 1) wr w1.heap.size wr.heap.size a' n NS ∧ (a' = none → c' = 0)) ∧ Below w1.heap.size w1 wr from ⟨⟨a', kn, cap', hv, hI, hx⟩, hB.out⟩)
      clear hO2 hv hI hx hO
      go_wp2
      go_ret
      obtain ⟨⟨a', n', c', h1, h2, h3⟩, h5⟩ := hRR.out
      exact ⟨⟨a', n', c', by rw [h1]; first | done | rfl, h2, h3⟩, h5⟩
theorem whole_all {t : Dom.T} (hG : Dom.Good t) {r : Nat → Nat} (hr : ∀ k (p : Nat), Dom.parAt t k = (p : Nat) → r p < r k) {M : Nat} (hM : ∀ i, i < t.length → r i ≤ M) (hat : ∀ i, (Dom.nodeAt t i).nd.atts.length ≤ 1000000000) : ∀ d, WholeC t r M d
  | 0 => fun i _ h => by omega
  | d + 1 => whole_succ hG hr hM hat d (whole_all hG hr hM hat d)
/-- Whole, at any depth that is great enough: new memory, all apart. -/
theorem rwhole_any {t : Dom.T} (hG : Dom.Good t) (hat : ∀ i, (Dom.nodeAt t i).nd.atts.length ≤ 1000000000) : ∃ D, ∀ d, D < d → ∀ (i : Nat), i < t.length → ∀ (w : World) (R g cap : Nat), TreeR w R g cap t →
    Calls Try.prog 54 #[.pointer (some ⟨R, 0, none⟩), .int .i64 i] w fun e w' => (∃ a' n c', e = .returned (.slice a' n c') ∧ IsD d w' w.heap.size w'.heap.size a' n (Dom.wholeF d t i) ∧ (a' = none → c' = 0)) ∧ Below w.heap.size w w' := by
  obtain ⟨r, hr⟩ := hG.ends
  obtain ⟨M, hM⟩ := Dom.ranks_le r t.length
  exact ⟨M, fun d hd i hi w R g cap hR => whole_all hG hr hM hat d i hi (by omega) w R g cap hR⟩
end Go.Proofs.Ythbklcpjbeelhaa
