/- Walks: are two policies alike. -/
import Derived.Test.YtpheaepifjcmiaaDoorSame
namespace Go.Proofs.YtpheaepifjcmiaaDoor
open Go.RowKit Go.Lib Rule
set_option maxRecDepth 100000
set_option linter.unusedVariables false

/-- What a policy's three lists hold, in memory. -/
structure Pol3 (w : World) (a1 : Option Addr) (n1 : Nat) (es : List (List UInt8)) (a2 : Option Addr) (n2 : Nat) (ats : List (List UInt8 × List UInt8)) (a3 : Option Addr) (n3 : Nat) (ss : List (List UInt8)) : Prop where
  is1 : IsS w a1 n1 es
  is2 : IsA w a2 n2 ats
  is3 : IsS w a3 n3 ss
  sm1 : n1 ≤ 100000
  sm2 : n2 ≤ 100000
  sm3 : n3 ≤ 100000
theorem Pol3.below {w w' : World} {a1 : Option Addr} {n1 : Nat} {es : List (List UInt8)} {a2 : Option Addr} {n2 : Nat} {ats : List (List UInt8 × List UInt8)} {a3 : Option Addr} {n3 : Nat} {ss : List (List UInt8)}
    (h : Pol3 w a1 n1 es a2 n2 ats a3 n3 ss) (hb : Below w.heap.size w w') : Pol3 w' a1 n1 es a2 n2 ats a3 n3 ss :=
  { h with is1 := h.is1.below hb, is2 := h.is2.below hb, is3 := h.is3.below hb }
theorem PolW.three {w : World} {a1 : Option Addr} {n1 c1 : Nat} {es : List (List UInt8)} {a2 : Option Addr} {n2 c2 : Nat} {ats : List (List UInt8 × List UInt8)} {a3 : Option Addr} {n3 c3 : Nat} {ss : List (List UInt8)}
    (h : PolW w a1 n1 c1 es a2 n2 c2 ats a3 n3 c3 ss) : Pol3 w a1 n1 es a2 n2 ats a3 n3 ss := ⟨h.is1, h.is2, h.is3, h.sm1, h.sm2, h.sm3⟩
set_option maxHeartbeats 4000000 in
theorem sameP_any (a1 : Option Addr) (n1 c1 : Nat) (es : List (List UInt8)) (a2 : Option Addr) (n2 c2 : Nat) (ats : List (List UInt8 × List UInt8)) (a3 : Option Addr) (n3 c3 : Nat) (ss : List (List UInt8))
    (x1 : Option Addr) (m1 k1 : Nat) (es' : List (List UInt8)) (x2 : Option Addr) (m2 k2 : Nat) (ats' : List (List UInt8 × List UInt8)) (x3 : Option Addr) (m3 k3 : Nat) (ss' : List (List UInt8)) (w : World)
    (h : Pol3 w a1 n1 es a2 n2 ats a3 n3 ss) (g : Pol3 w x1 m1 es' x2 m2 ats' x3 m3 ss') :
    Calls Tryd.prog 12 #[.agg #[.slice a1 n1 c1, .slice a2 n2 c2, .slice a3 n3 c3], .agg #[.slice x1 m1 k1, .slice x2 m2 k2, .slice x3 m3 k3]] w fun e w' => e = .returned (.bool (decide (ats = ats') && (decide (es = es') && decide (ss = ss')))) ∧ Below w.heap.size w w' := by
  have HH := hid h
  have HG := hid g
  have hl2 := h.is2.1
  have hm2 := g.is2.1
  have hsm2 : n2 ≤ 100000 := h.sm2
  have S1 := hid (fun W (hW : Below w.heap.size w W) => sameS_any a1 n1 c1 es x1 m1 k1 es' W (h.is1.below hW) (g.is1.below hW) (by have := h.sm1; omega) (by have := g.sm1; omega))
  have S3 := hid (fun W (hW : Below w.heap.size w W) => sameS_any a3 n3 c3 ss x3 m3 k3 ss' W (h.is3.below hW) (g.is3.below hW) (by have := h.sm3; omega) (by have := g.sm3; omega))
  generalize decide (es = es') = b1 at *
  generalize decide (ss = ss') = b3 at *
  obtain ⟨c, hc⟩ : ∃ c, (decide (ats = ats') && (b1 && b3)) = c := ⟨_, rfl⟩
  rw [hc]
  have HC := hid hc
  have b0 := hid (((Below.refl w.heap.size w).alloc (Nat.le_refl _) (.cells #[.slice a1 n1 c1, .slice a2 n2 c2, .slice a3 n3 c3] 25)).alloc (by simp) (.cells #[.slice x1 m1 k1, .slice x2 m2 k2, .slice x3 m3 k3] 25))
  clear h g hc
  by_cases hne : n2 = m2
  · have HL1 := hid hl2
    have HL2 := hid hm2
    have d0 : ((n2 : Int) != (m2 : Int)) = false := by simp; omega
    have HE := hid hne
    clear hl2 hm2 hne
    go_enter Tryd.func12, Tryd.ntmps12
    have g0 : ((w.alloc (.cells #[.slice a1 n1 c1, .slice a2 n2 c2, .slice a3 n3 c3] 25)).alloc (.cells #[.slice x1 m1 k1, .slice x2 m2 k2, .slice x3 m3 k3] 25)).cell? ⟨w.heap.size, 0, none⟩ = some (.slice a1 n1 c1) := by simp
    have g1 : ((w.alloc (.cells #[.slice a1 n1 c1, .slice a2 n2 c2, .slice a3 n3 c3] 25)).alloc (.cells #[.slice x1 m1 k1, .slice x2 m2 k2, .slice x3 m3 k3] 25)).cell? ⟨w.heap.size, 1, none⟩ = some (.slice a2 n2 c2) := by simp
    have g2 : ((w.alloc (.cells #[.slice a1 n1 c1, .slice a2 n2 c2, .slice a3 n3 c3] 25)).alloc (.cells #[.slice x1 m1 k1, .slice x2 m2 k2, .slice x3 m3 k3] 25)).cell? ⟨w.heap.size, 2, none⟩ = some (.slice a3 n3 c3) := by simp
    have q0 : ((w.alloc (.cells #[.slice a1 n1 c1, .slice a2 n2 c2, .slice a3 n3 c3] 25)).alloc (.cells #[.slice x1 m1 k1, .slice x2 m2 k2, .slice x3 m3 k3] 25)).cell? ⟨w.heap.size + 1, 0, none⟩ = some (.slice x1 m1 k1) := by simp
    have q1 : ((w.alloc (.cells #[.slice a1 n1 c1, .slice a2 n2 c2, .slice a3 n3 c3] 25)).alloc (.cells #[.slice x1 m1 k1, .slice x2 m2 k2, .slice x3 m3 k3] 25)).cell? ⟨w.heap.size + 1, 1, none⟩ = some (.slice x2 m2 k2) := by simp
    have q2 : ((w.alloc (.cells #[.slice a1 n1 c1, .slice a2 n2 c2, .slice a3 n3 c3] 25)).alloc (.cells #[.slice x1 m1 k1, .slice x2 m2 k2, .slice x3 m3 k3] 25)).cell? ⟨w.heap.size + 1, 2, none⟩ = some (.slice x3 m3 k3) := by simp
    go_wp2
    obtain ⟨W, hW⟩ : ∃ W, (w.alloc (.cells #[.slice a1 n1 c1, .slice a2 n2 c2, .slice a3 n3 c3] 25)).alloc (.cells #[.slice x1 m1 k1, .slice x2 m2 k2, .slice x3 m3 k3] 25) = W := ⟨_, rfl⟩
    obtain ⟨P, hP⟩ : ∃ P, w.heap.size = P := ⟨_, rfl⟩
    rw [hW] at b0 g0 g1 g2 q0 q1 q2 ⊢
    rw [hP] at g0 g1 g2 q0 q1 q2 ⊢
    have h0 : ∀ V, Below W.heap.size W V → V.cell? ⟨P, 0, none⟩ = some (.slice a1 n1 c1) := fun V hV => (hV.cell (p := ⟨P, 0, none⟩) (World.block_lt_of_cell? _ _ g0)).trans g0
    have h1 : ∀ V, Below W.heap.size W V → V.cell? ⟨P, 1, none⟩ = some (.slice a2 n2 c2) := fun V hV => (hV.cell (p := ⟨P, 1, none⟩) (World.block_lt_of_cell? _ _ g1)).trans g1
    have h2 : ∀ V, Below W.heap.size W V → V.cell? ⟨P, 2, none⟩ = some (.slice a3 n3 c3) := fun V hV => (hV.cell (p := ⟨P, 2, none⟩) (World.block_lt_of_cell? _ _ g2)).trans g2
    have i0 : ∀ V, Below W.heap.size W V → V.cell? ⟨P + 1, 0, none⟩ = some (.slice x1 m1 k1) := fun V hV => (hV.cell (p := ⟨P + 1, 0, none⟩) (World.block_lt_of_cell? _ _ q0)).trans q0
    have i1 : ∀ V, Below W.heap.size W V → V.cell? ⟨P + 1, 1, none⟩ = some (.slice x2 m2 k2) := fun V hV => (hV.cell (p := ⟨P + 1, 1, none⟩) (World.block_lt_of_cell? _ _ q1)).trans q1
    have i2 : ∀ V, Below W.heap.size W V → V.cell? ⟨P + 1, 2, none⟩ = some (.slice x3 m3 k3) := fun V hV => (hV.cell (p := ⟨P + 1, 2, none⟩) (World.block_lt_of_cell? _ _ q2)).trans q2
    have HH2 := hid (HH.out.below b0.out)
    have HG2 := hid (HG.out.below b0.out)
    have HP := hid hP
    clear hW hP g0 g1 g2 q0 q1 q2
    go_loopg [5] n2 (fun g iv wr => ∃ k : Nat, k + g = n2 ∧ iv = .int .i64 k ∧ Hid (ats.take k = ats'.take k) ∧ Below W.heap.size W wr)
    case atStart => exact ⟨0, by omega, rfl, hid rfl, Below.refl _ _⟩
    case round =>
      obtain ⟨k, hk, rfl, hI, hb⟩ := hrel
      by_cases hlt : k < n2
      · have d1 : decide (k < n2) = true := decide_eq_true hlt
        have hltI : (k : Int) < (n2 : Int) := by omega
        have hltJ : (k : Int) < (m2 : Int) := by have := HE.out; omega
        obtain ⟨_, z0 | ⟨b1', o1, rfl, hat⟩⟩ := HH2.out.is2.below hb
        · omega
        obtain ⟨_, z0 | ⟨b2', o2, rfl, hau⟩⟩ := HG2.out.is2.below hb
        · omega
        obtain ⟨⟨x, y⟩, hx⟩ : ∃ x, ats[k]? = some x := ⟨_, List.getElem?_eq_getElem (by have := HL1.out; omega)⟩
        obtain ⟨⟨x', y'⟩, hy⟩ : ∃ y, ats'[k]? = some y := ⟨_, List.getElem?_eq_getElem (by have := HL2.out; have := HE.out; omega)⟩
        obtain ⟨e0, e1⟩ := hat k _ hx
        obtain ⟨f0, f1⟩ := hau k _ hy
        simp only at e0 e1 f0 f1
        by_cases he : x = x'
        · by_cases hf : y = y'
          · have HN := hid (take_more hI.out hx (by rw [he, hf]; exact hy))
            rw [← he] at f0
            rw [← hf] at f1
            generalize bs x = X at *
            generalize bs y = Y at *
            clear he hf hx hy hat hau hI
            go_wp2
            go_region
            go_wp2
            go_roundg (n2 - (k + 1))
            case measure => omega
            case rel => exact ⟨k + 1, by omega, by go_num, HN, bel_drewN hb 1⟩
          · have HR := hid (show c = false by rw [← HC.out, decide_eq_false (get_ne hx hy fun e => hf (congrArg Prod.snd e))]; rfl)
            have t0 : ¬ (bs y).toList = (bs y').toList := fun e => hf (bs_inj e)
            rw [← he] at f0
            generalize bs x = X at *
            generalize bs y = Y at *
            generalize bs y' = Y' at *
            clear he hf hx hy hat hau hI
            go_wp2
            go_region
            go_wp2
            go_ret
            exact ⟨ret_bool' HR.out.symm, b0.out.trans ((bel_drewN hb 1).mono b0.out.size)⟩
        · have HR := hid (show c = false by rw [← HC.out, decide_eq_false (get_ne hx hy fun e => he (congrArg Prod.fst e))]; rfl)
          have t0 : ¬ (bs x).toList = (bs x').toList := fun e => he (bs_inj e)
          generalize bs x = X at *
          generalize bs x' = X' at *
          generalize bs y = Y at *
          generalize bs y' = Y' at *
          clear he hx hy hat hau hI
          go_wp2
          go_region
          go_wp2
          go_ret
          exact ⟨ret_bool' HR.out.symm, b0.out.trans ((bel_drewN hb 1).mono b0.out.size)⟩
      · have d1 : decide (k < n2) = false := decide_eq_false hlt
        have hltI : ¬ (k : Int) < (n2 : Int) := by omega
        have HR := hid (show c = (b1 && b3) by
          rw [← HC.out, decide_eq_true (take_all hI.out HL1.out (by have := HL2.out; have := HE.out; omega) hlt)]; rfl)
        clear hI
        cases b1 with
        | false =>
          go_wp2_with fail
          refine (S1.out _ (b0.out.trans (hb.mono b0.out.size))).mono ?_
          rintro e v1 ⟨rfl, j1⟩
          have e1 := hb.trans (j1.mono hb.size)
          clear j1
          go_wp2
          go_ret
          exact ⟨ret_bool' (by rw [HR.out]; rfl), b0.out.trans (e1.mono b0.out.size)⟩
        | true =>
          go_wp2_with fail
          refine (S1.out _ (b0.out.trans (hb.mono b0.out.size))).mono ?_
          rintro e v1 ⟨rfl, j1⟩
          have e1 := hb.trans (j1.mono hb.size)
          clear j1
          go_wp2_with fail
          refine (S3.out _ (b0.out.trans (e1.mono b0.out.size))).mono ?_
          rintro e v2 ⟨rfl, j2⟩
          have e2 := e1.trans (j2.mono e1.size)
          clear j2
          go_wp2
          go_ret
          exact ⟨ret_bool' (by rw [HR.out]; rfl), b0.out.trans (e2.mono b0.out.size)⟩
  · have d0 : ((n2 : Int) != (m2 : Int)) = true := by simp; omega
    have HR := hid (show c = false by rw [← HC.out, decide_eq_false fun e => hne (by rw [← hl2, ← hm2, e])]; rfl)
    clear hl2 hm2 hne
    go_enter Tryd.func12, Tryd.ntmps12
    go_wp2
    go_ret
    exact ⟨ret_bool' HR.out.symm, b0.out⟩
end Go.Proofs.YtpheaepifjcmiaaDoor
