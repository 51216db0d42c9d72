/- Walks: an own copy of a policy. -/
import Derived.Test.YtpheaepifjcmiaaDoorAppS
import Derived.Test.YtpheaepifjcmiaaDoorSamePol
namespace Go.Proofs.YtpheaepifjcmiaaDoor
open Go.RowKit Go.Lib Rule
set_option maxRecDepth 100000
set_option linter.unusedVariables false

/-- A block that is known whole. -/
def BlkW (W : World) (g : Nat) (cs : Array Value) (t : TypeId) : Prop := W.heap[g]? = some (.cells cs t (0, 0))
theorem BlkW.lt {W : World} {g : Nat} {cs : Array Value} {t : TypeId} (h : BlkW W g cs t) : g < W.heap.size := by
  rcases Nat.lt_or_ge g W.heap.size with h1 | h1
  · exact h1
  · unfold BlkW at h; rw [Array.getElem?_eq_none h1] at h; cases h
theorem BlkW.cell {W : World} {g : Nat} {cs : Array Value} {t : TypeId} (h : BlkW W g cs t) (i : Nat) : W.cell? ⟨g, i, none⟩ = cs[i]? := by
  unfold BlkW at h
  simp [World.cell?, h]
theorem BlkW.free {W : World} {g : Nat} {cs : Array Value} {t : TypeId} (h : BlkW W g cs t) (i : Nat) : W.frozen? ⟨g, i, none⟩ = false := by
  unfold BlkW at h
  simp [World.frozen?, h]
theorem BlkW.new (W : World) (cs : Array Value) (t : TypeId) : BlkW (W.alloc (.cells cs t)) W.heap.size cs t := heap_alloc_new W _
theorem BlkW.alloc {W : World} {g : Nat} {cs : Array Value} {t : TypeId} (h : BlkW W g cs t) (o : Obj) : BlkW (W.alloc o) g cs t := (heap_alloc_old W o h.lt).trans h
theorem BlkW.grow {W W' : World} {g : Nat} {cs : Array Value} {t : TypeId} {row : Option Nat} (h : BlkW W g cs t) (hg : W.grownBy W' row) (hne : some g ≠ row) : BlkW W' g cs t := (hg.block g h.lt hne).trans h
theorem BlkW.below {W W' : World} {g B : Nat} {cs : Array Value} {t : TypeId} (h : BlkW W g cs t) (hb : Below B W W') (hB : g < B) : BlkW W' g cs t := (hb.block g hB).trans h
theorem BlkW.set_ {W : World} {g : Nat} {cs : Array Value} {t : TypeId} (h : BlkW W g cs t) (i : Nat) (u : Value) : BlkW (W.setCell ⟨g, i, none⟩ u) g (cs.setIfInBounds i u) t := by
  unfold BlkW at h ⊢
  simp [World.setCell, Array.getElem?_modify, h]
theorem BlkW.far {W : World} {g : Nat} {cs : Array Value} {t : TypeId} (h : BlkW W g cs t) (p : Addr) (u : Value) (hp : p.block ≠ g) : BlkW (W.setCell p u) g cs t := by
  unfold BlkW at h ⊢
  simp [World.setCell, Array.getElem?_modify, hp, h]
theorem grow_below {W W' : World} (h : W.grownBy W' none) : Below W.heap.size W W' := (Below.refl _ _).grown h (Nat.le_refl _) (fun k hk => by cases hk)
/-- The three slices of an own copy. -/
def LentE (w : World) (es : List (List UInt8)) (n1 : Nat) (ats : List (List UInt8 × List UInt8)) (n2 : Nat) (ss : List (List UInt8)) (n3 : Nat) (e : Ending) (w' : World) : Prop :=
  ∃ x1 k1 x2 k2 x3 k3, e = .returned (.agg #[.slice x1 n1 k1, .slice x2 n2 k2, .slice x3 n3 k3]) ∧ PolW w' x1 n1 k1 es x2 n2 k2 ats x3 n3 k3 ss ∧
    (∀ x, x1 = some x → w.heap.size ≤ x.block) ∧ (∀ x, x2 = some x → w.heap.size ≤ x.block) ∧ (∀ x, x3 = some x → w.heap.size ≤ x.block) ∧ (x1 = none → k1 = 0) ∧ (x2 = none → k2 = 0) ∧ (x3 = none → k3 = 0) ∧ Below w.heap.size w w'
def Plain (a : Option Addr) (c : Nat) : Prop := a = none → c = 0
set_option maxHeartbeats 4000000 in
theorem lent_any (a1 : Option Addr) (n1 c1 : Nat) (es : List (List UInt8)) (a2 : Option Addr) (n2 c2 : Nat) (ats : List (List UInt8 × List UInt8)) (a3 : Option Addr) (n3 c3 : Nat) (ss : List (List UInt8)) (w : World)
    (h : PolW w a1 n1 c1 es a2 n2 c2 ats a3 n3 c3 ss) (o1 : Plain a1 c1) (o2 : Plain a2 c2) (o3 : Plain a3 c3) :
    Calls Tryd.prog 8 #[.agg #[.slice a1 n1 c1, .slice a2 n2 c2, .slice a3 n3 c3]] w (LentE w es n1 ats n2 ss n3) := by
  have HH := hid h
  have s1 := h.sm1
  have s2 := h.sm2
  have s3 := h.sm3
  have HO1 := hid o1
  have HO2 := hid o2
  have HO3 := hid o3
  have hl1 := hid h.is1.1
  have hl2 := hid h.is2.1
  have hl3 := hid h.is3.1
  clear h o1 o2 o3
  go_enter Tryd.func8, Tryd.ntmps8
  have bP0 : BlkW (((w.alloc (.cells #[.slice a1 n1 c1, .slice a2 n2 c2, .slice a3 n3 c3] 25)).alloc (.cells #[.slice none 0 0, .slice none 0 0, .slice none 0 0] 25)).alloc (.cells #[.slice none 0 0, .slice none 0 0, .slice none 0 0] 25)) w.heap.size #[.slice a1 n1 c1, .slice a2 n2 c2, .slice a3 n3 c3] 25 := ((BlkW.new w #[.slice a1 n1 c1, .slice a2 n2 c2, .slice a3 n3 c3] 25).alloc _).alloc _
  have bR0 : BlkW (((w.alloc (.cells #[.slice a1 n1 c1, .slice a2 n2 c2, .slice a3 n3 c3] 25)).alloc (.cells #[.slice none 0 0, .slice none 0 0, .slice none 0 0] 25)).alloc (.cells #[.slice none 0 0, .slice none 0 0, .slice none 0 0] 25)) (w.heap.size + 1) #[.slice none 0 0, .slice none 0 0, .slice none 0 0] 25 := by
    have := (BlkW.new (w.alloc (.cells #[.slice a1 n1 c1, .slice a2 n2 c2, .slice a3 n3 c3] 25)) #[.slice none 0 0, .slice none 0 0, .slice none 0 0] 25).alloc (.cells #[.slice none 0 0, .slice none 0 0, .slice none 0 0] 25)
    simpa using this
  have bQ0 : BlkW (((w.alloc (.cells #[.slice a1 n1 c1, .slice a2 n2 c2, .slice a3 n3 c3] 25)).alloc (.cells #[.slice none 0 0, .slice none 0 0, .slice none 0 0] 25)).alloc (.cells #[.slice none 0 0, .slice none 0 0, .slice none 0 0] 25)) (w.heap.size + 1 + 1) #[.slice none 0 0, .slice none 0 0, .slice none 0 0] 25 := by
    have := BlkW.new ((w.alloc (.cells #[.slice a1 n1 c1, .slice a2 n2 c2, .slice a3 n3 c3] 25)).alloc (.cells #[.slice none 0 0, .slice none 0 0, .slice none 0 0] 25)) #[.slice none 0 0, .slice none 0 0, .slice none 0 0] 25
    simpa using this
  have b0 : Below w.heap.size w (((w.alloc (.cells #[.slice a1 n1 c1, .slice a2 n2 c2, .slice a3 n3 c3] 25)).alloc (.cells #[.slice none 0 0, .slice none 0 0, .slice none 0 0] 25)).alloc (.cells #[.slice none 0 0, .slice none 0 0, .slice none 0 0] 25)) := (((Below.refl _ _).alloc (Nat.le_refl _) _).alloc (by simp) _).alloc (by simp; omega) _
  have hz0 : (((w.alloc (.cells #[.slice a1 n1 c1, .slice a2 n2 c2, .slice a3 n3 c3] 25)).alloc (.cells #[.slice none 0 0, .slice none 0 0, .slice none 0 0] 25)).alloc (.cells #[.slice none 0 0, .slice none 0 0, .slice none 0 0] 25)).heap.size = w.heap.size + 1 + 1 + 1 := by simp
  obtain ⟨W, hW⟩ : ∃ W, ((w.alloc (.cells #[.slice a1 n1 c1, .slice a2 n2 c2, .slice a3 n3 c3] 25)).alloc (.cells #[.slice none 0 0, .slice none 0 0, .slice none 0 0] 25)).alloc (.cells #[.slice none 0 0, .slice none 0 0, .slice none 0 0] 25) = W := ⟨_, rfl⟩
  obtain ⟨P, hP⟩ : ∃ P, w.heap.size = P := ⟨_, rfl⟩
  rw [hW] at bP0 bR0 bQ0 b0 hz0
  rw [hP] at bP0 bR0 bQ0 hz0
  have HS1 := hid (HH.out.is1.below b0)
  have HZ0 := hid hz0
  have HW := hid hW
  have HP := hid hP
  have BP0 := hid bP0
  have BR0 := hid bR0
  have BQ0 := hid bQ0
  have B0 := hid b0
  clear bP0 bR0 bQ0 b0 hz0 hW hP
  go_wp2_with (at_builtin; refine append_S rfl _ _ rfl W.heap.size _ [] rfl (World.ownsRow_nil _ _ _ _) a1 n1 c1 es rfl (by rw [HW.out]; exact HS1.out) HO1.out (by simp; omega) (by rw [HW.out]; exact Nat.le_refl _) ?_)
  intro v1 w1 own1 gr1
  rw [HW.out] at gr1
  rw [HP.out]
  obtain ⟨x1, k1, hv1, is1, lc1, cm1, bb1, nn1⟩ := own_isS' own1
  have gr1 : W.grownBy w1 none := gr1
  have bP1 := BP0.out.grow gr1 (by simp)
  have bR1 := BR0.out.grow gr1 (by simp)
  have bQ1 := BQ0.out.grow gr1 (by simp)
  have hz0 := HZ0.out
  have B1 := hid (B0.out.trans ((grow_below gr1).mono B0.out.size))
  have hz1 := (grow_below gr1).size
  rw [hl1.out] at hv1 is1 lc1
  subst hv1
  have cP1 : w1.cell? ⟨P, 1, none⟩ = some (.slice a2 n2 c2) := bP1.cell 1
  have cP2 : w1.cell? ⟨P, 2, none⟩ = some (.slice a3 n3 c3) := bP1.cell 2
  have cQ0 : w1.cell? ⟨P + 1 + 1, 0, none⟩ = some (.slice none 0 0) := bQ1.cell 0
  have cQ1 : w1.cell? ⟨P + 1 + 1, 1, none⟩ = some (.slice none 0 0) := bQ1.cell 1
  have fQ0 : w1.frozen? ⟨P + 1 + 1, 0, none⟩ = false := bQ1.free 0
  have HPw := HP.out
  have B1s := hid (B1.out.setCell (p := ⟨P + 1 + 1, 0, none⟩) (by show w.heap.size ≤ P + 1 + 1; omega) (.slice x1 n1 k1))
  have HS2 := hid (HH.out.is2.below B1s.out)
  have bP1s := hid (bP1.far ⟨P + 1 + 1, 0, none⟩ (.slice x1 n1 k1) (by show P + 1 + 1 ≠ P; omega))
  have bR1s := hid (bR1.far ⟨P + 1 + 1, 0, none⟩ (.slice x1 n1 k1) (by show P + 1 + 1 ≠ P + 1; omega))
  have bQ1s := hid (bQ1.set_ 0 (.slice x1 n1 k1))
  have is1s := hid (is1.set_ ⟨P + 1 + 1, 0, none⟩ (.slice x1 n1 k1) (fun x hx => by have := bb1 x hx; show x.block ≠ P + 1 + 1; omega))
  have HBB1 := hid (show ∀ x, x1 = some x → w.heap.size ≤ x.block from fun x hx => by have := bb1 x hx; omega)
  have HBQ1 := hid (show ∀ x, x1 = some x → P + 3 ≤ x.block from fun x hx => by have := bb1 x hx; omega)
  have HNN1 := hid nn1
  have HZ1 := hid (show P + 3 ≤ w1.heap.size by omega)
  clear bb1 nn1 is1 bP1 bR1 bQ1 own1 gr1 HPw
  go_wp2_with (at_builtin; refine append_A rfl _ _ rfl w1.heap.size _ [] rfl (World.ownsRow_nil _ _ _ _) a2 n2 c2 ats rfl HS2.out HO2.out (by simp; omega) (by simp) ?_)
  intro v2 w2 own2 gr2
  obtain ⟨x2, k2, hv2, is2, lc2, cm2, bb2, nn2⟩ := own_isA' own2
  have gr2 : (w1.setCell ⟨P + 1 + 1, 0, none⟩ (.slice x1 n1 k1)).grownBy w2 none := gr2
  have bP2 := bP1s.out.grow gr2 (by simp)
  have bR2 := bR1s.out.grow gr2 (by simp)
  have bQ2 := bQ1s.out.grow gr2 (by simp)
  have G2 := grow_below gr2
  have B2 := hid (B1s.out.trans (G2.mono B1s.out.size))
  have is1b := hid (is1s.out.below G2)
  have hz2 : w1.heap.size ≤ w2.heap.size := by have := G2.size; simpa using this
  rw [hl2.out] at hv2 is2 lc2
  subst hv2
  clear cP1 cP2 cQ0 cQ1 fQ0
  have cP2 : w2.cell? ⟨P, 2, none⟩ = some (.slice a3 n3 c3) := bP2.cell 2
  have cQ0 : w2.cell? ⟨P + 1 + 1, 0, none⟩ = some (.slice x1 n1 k1) := bQ2.cell 0
  have cQ1 : w2.cell? ⟨P + 1 + 1, 1, none⟩ = some (.slice none 0 0) := bQ2.cell 1
  have cQ2 : w2.cell? ⟨P + 1 + 1, 2, none⟩ = some (.slice none 0 0) := bQ2.cell 2
  have fQ1 : w2.frozen? ⟨P + 1 + 1, 1, none⟩ = false := bQ2.free 1
  have HPw := HP.out
  have HZ1o := HZ1.out
  have B2s := hid (B2.out.setCell (p := ⟨P + 1 + 1, 1, none⟩) (by show w.heap.size ≤ P + 1 + 1; omega) (.slice x2 n2 k2))
  have HS3 := hid (HH.out.is3.below B2s.out)
  have bR2s := hid (bR2.far ⟨P + 1 + 1, 1, none⟩ (.slice x2 n2 k2) (by show P + 1 + 1 ≠ P + 1; omega))
  have bQ2s := hid (bQ2.set_ 1 (.slice x2 n2 k2))
  have is1c := hid (is1b.out.set_ ⟨P + 1 + 1, 1, none⟩ (.slice x2 n2 k2) (fun x hx => by have := HBQ1.out x hx; show x.block ≠ P + 1 + 1; omega))
  have is2c := hid (is2.set_ ⟨P + 1 + 1, 1, none⟩ (.slice x2 n2 k2) (fun x hx => by have := bb2 x hx; show x.block ≠ P + 1 + 1; omega))
  have HBB2 := hid (show ∀ x, x2 = some x → w.heap.size ≤ x.block from fun x hx => by have := bb2 x hx; omega)
  have HBQ2 := hid (show ∀ x, x2 = some x → P + 3 ≤ x.block from fun x hx => by have := bb2 x hx; omega)
  have HNN2 := hid nn2
  have HZ2 := hid (show P + 3 ≤ w2.heap.size by omega)
  clear bb2 nn2 is2 bP2 bR2 bQ2 own2 gr2 G2 HPw HZ1o
  go_wp2_with (at_builtin; refine append_S rfl _ _ rfl w2.heap.size _ [] rfl (World.ownsRow_nil _ _ _ _) a3 n3 c3 ss rfl HS3.out HO3.out (by simp; omega) (by simp) ?_)
  intro v3 w3 own3 gr3
  obtain ⟨x3, k3, hv3, is3, lc3, cm3, bb3, nn3⟩ := own_isS' own3
  have gr3 : (w2.setCell ⟨P + 1 + 1, 1, none⟩ (.slice x2 n2 k2)).grownBy w3 none := gr3
  have bR3 := bR2s.out.grow gr3 (by simp)
  have bQ3 := bQ2s.out.grow gr3 (by simp)
  have G3 := grow_below gr3
  have B3 := hid (B2s.out.trans (G3.mono B2s.out.size))
  have is1d := hid (is1c.out.below G3)
  have is2d := hid (is2c.out.below G3)
  have hz3 : w2.heap.size ≤ w3.heap.size := by have := G3.size; simpa using this
  rw [hl3.out] at hv3 is3 lc3
  subst hv3
  clear cP2 cQ0 cQ1 cQ2 fQ1
  have cQ0 : w3.cell? ⟨P + 1 + 1, 0, none⟩ = some (.slice x1 n1 k1) := bQ3.cell 0
  have cQ1 : w3.cell? ⟨P + 1 + 1, 1, none⟩ = some (.slice x2 n2 k2) := bQ3.cell 1
  have cQ2 : w3.cell? ⟨P + 1 + 1, 2, none⟩ = some (.slice none 0 0) := bQ3.cell 2
  have fQ2 : w3.frozen? ⟨P + 1 + 1, 2, none⟩ = false := bQ3.free 2
  have cR0 : w3.cell? ⟨P + 1, 0, none⟩ = some (.slice none 0 0) := bR3.cell 0
  have cR1 : w3.cell? ⟨P + 1, 1, none⟩ = some (.slice none 0 0) := bR3.cell 1
  have cR2 : w3.cell? ⟨P + 1, 2, none⟩ = some (.slice none 0 0) := bR3.cell 2
  have fR0 : w3.frozen? ⟨P + 1, 0, none⟩ = false := bR3.free 0
  have fR1 : w3.frozen? ⟨P + 1, 1, none⟩ = false := bR3.free 1
  have fR2 : w3.frozen? ⟨P + 1, 2, none⟩ = false := bR3.free 2
  have HIS3 := hid is3
  have HBB3 := hid bb3
  have HNN3 := hid nn3
  have bR4 := hid ((((bR3.far ⟨P + 1 + 1, 2, none⟩ (.slice x3 n3 k3) (by show P + 1 + 1 ≠ P + 1; omega)).set_ 0 (.slice x1 n1 k1)).set_ 1 (.slice x2 n2 k2)).set_ 2 (.slice x3 n3 k3))
  clear bb3 nn3 is3 bR3 bQ3 own3 gr3 G3
  go_wp2
  have bR5 : BlkW ((((w3.setCell ⟨P + 1 + 1, 2, none⟩ (.slice x3 n3 k3)).setCell ⟨P + 1, 0, none⟩ (.slice x1 n1 k1)).setCell ⟨P + 1, 1, none⟩ (.slice x2 n2 k2)).setCell ⟨P + 1, 2, none⟩ (.slice x3 n3 k3)) (P + 1) #[.slice x1 n1 k1, .slice x2 n2 k2, .slice x3 n3 k3] 25 := bR4.out
  obtain ⟨WF, hWF⟩ : ∃ WF, (((w3.setCell ⟨P + 1 + 1, 2, none⟩ (.slice x3 n3 k3)).setCell ⟨P + 1, 0, none⟩ (.slice x1 n1 k1)).setCell ⟨P + 1, 1, none⟩ (.slice x2 n2 k2)).setCell ⟨P + 1, 2, none⟩ (.slice x3 n3 k3) = WF := ⟨_, rfl⟩
  rw [hWF] at bR5 ⊢
  have y0 : WF.cell? ⟨P + 1, 0, none⟩ = some (.slice x1 n1 k1) := bR5.cell 0
  have y1 : WF.cell? ⟨P + 1, 1, none⟩ = some (.slice x2 n2 k2) := bR5.cell 1
  have y2 : WF.cell? ⟨P + 1, 2, none⟩ = some (.slice x3 n3 k3) := bR5.cell 2
  refine bodyPost_ret (v := .agg #[.slice x1 n1 k1, .slice x2 n2 k2, .slice x3 n3 k3]) (by simp [results, Tryd.results8, go_sem, y0, y1, y2]) rfl ?_
  rw [← hWF]
  have hw := HP.out
  have z2 := HZ2.out
  have f1 := HBQ1.out
  have f2 := HBQ2.out
  have f3 : ∀ x, x3 = some x → P + 3 ≤ x.block := fun x hx => by have := HBB3.out x hx; omega
  refine ⟨x1, k1, x2, k2, x3, k3, rfl, ?_, HBB1.out, HBB2.out, fun x hx => by have := f3 x hx; omega, HNN1.out, HNN2.out, HNN3.out, ?_⟩
  · exact
      { is1 := (((is1d.out.set_ _ _ (fun x hx => by have := f1 x hx; show x.block ≠ P + 1 + 1; omega)).set_ _ _ (fun x hx => by have := f1 x hx; show x.block ≠ P + 1; omega)).set_ _ _ (fun x hx => by have := f1 x hx; show x.block ≠ P + 1; omega)).set_ _ _ (fun x hx => by have := f1 x hx; show x.block ≠ P + 1; omega)
        is2 := (((is2d.out.set_ _ _ (fun x hx => by have := f2 x hx; show x.block ≠ P + 1 + 1; omega)).set_ _ _ (fun x hx => by have := f2 x hx; show x.block ≠ P + 1; omega)).set_ _ _ (fun x hx => by have := f2 x hx; show x.block ≠ P + 1; omega)).set_ _ _ (fun x hx => by have := f2 x hx; show x.block ≠ P + 1; omega)
        is3 := by
          have h3 := HIS3.out
          exact (((h3.set_ _ _ (fun x hx => by have := f3 x hx; show x.block ≠ P + 1 + 1; omega)).set_ _ _ (fun x hx => by have := f3 x hx; show x.block ≠ P + 1; omega)).set_ _ _ (fun x hx => by have := f3 x hx; show x.block ≠ P + 1; omega)).set_ _ _ (fun x hx => by have := f3 x hx; show x.block ≠ P + 1; omega)
        lc1 := lc1
        lc2 := lc2
        lc3 := lc3
        cm1 := by unfold maxLen at cm1; omega
        cm2 := by unfold maxLen at cm2; omega
        cm3 := by unfold maxLen at cm3; omega
        sm1 := s1
        sm2 := s2
        sm3 := s3
        tx1 := HH.out.tx1
        tx2 := HH.out.tx2
        tx3 := HH.out.tx3 }
  · exact (((B3.out.setCell (by show w.heap.size ≤ P + 1 + 1; omega) _).setCell (by show w.heap.size ≤ P + 1; omega) _).setCell (by show w.heap.size ≤ P + 1; omega) _).setCell (by show w.heap.size ≤ P + 1; omega) _
end Go.Proofs.YtpheaepifjcmiaaDoor
