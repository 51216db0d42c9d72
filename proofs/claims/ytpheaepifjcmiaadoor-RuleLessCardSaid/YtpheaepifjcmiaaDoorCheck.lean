/- Walks: package rule, Check. -/
import Derived.Test.YtpheaepifjcmiaaDoorLead
import Derived.Test.YtpheaepifjcmiaaDoorOnceA
namespace Go.Proofs.YtpheaepifjcmiaaDoor
open Go.RowKit Go.Lib Rule
set_option maxRecDepth 100000
set_option linter.unusedVariables false

def chk (b : Bool) : Ending := .returned (.int .u16 (if b = true then 0 else 50))
theorem chk_yes {b : Bool} (h : b = true) : Ending.returned (.int .u16 0) = chk b := by rw [h]; rfl
theorem chk_no {b : Bool} (h : b = false) : Ending.returned (.int .u16 50) = chk b := by rw [h]; rfl
/-- A policy in memory: its three lists, none too long for the walk. -/
structure PolW (w : World) (a1 : Option Addr) (n1 c1 : Nat) (es : List (List UInt8)) (a2 : Option Addr) (n2 c2 : Nat) (ats : List (List UInt8 × List UInt8)) (a3 : Option Addr) (n3 c3 : Nat) (ss : List (List UInt8)) : Prop where
  is1 : IsS w a1 n1 es
  is2 : IsA w a2 n2 ats
  is3 : IsS w a3 n3 ss
  lc1 : n1 ≤ c1
  lc2 : n2 ≤ c2
  lc3 : n3 ≤ c3
  cm1 : c1 ≤ 9223372036854775807
  cm2 : c2 ≤ 9223372036854775807
  cm3 : c3 ≤ 9223372036854775807
  sm1 : n1 ≤ 100000
  sm2 : n2 ≤ 100000
  sm3 : n3 ≤ 100000
  tx1 : ∀ l ∈ es, l.length ≤ 1000000
  tx2 : ∀ x ∈ ats, x.1.length ≤ 1000000 ∧ x.2.length ≤ 1000000
  tx3 : ∀ l ∈ ss, l.length ≤ 1000000
theorem PolW.below {w w' : World} {a1 : Option Addr} {n1 c1 : Nat} {es : List (List UInt8)} {a2 : Option Addr} {n2 c2 : Nat} {ats : List (List UInt8 × List UInt8)} {a3 : Option Addr} {n3 c3 : Nat} {ss : List (List UInt8)}
    (h : PolW w a1 n1 c1 es a2 n2 c2 ats a3 n3 c3 ss) (hb : Below w.heap.size w w') : PolW w' a1 n1 c1 es a2 n2 c2 ats a3 n3 c3 ss :=
  { h with is1 := h.is1.below hb, is2 := h.is2.below hb, is3 := h.is3.below hb }
/-- The four that Check asks, each in whatever world comes behind. -/
structure Asks (W : World) (P K : Nat) (a1 : Option Addr) (n1 c1 : Nat) (a2 : Option Addr) (n2 c2 : Nat) (a3 : Option Addr) (n3 c3 : Nat) (b1 b2 b3 b4 : Bool) : Prop where
  q1 : ∀ V, Below W.heap.size W V → Calls Tryd.prog 20 #[.slice a1 n1 c1, .func (.func 21) #[] #[]] V fun e w' => e = .returned (.bool b1) ∧ Below V.heap.size V w'
  q2 : ∀ V, Below W.heap.size W V → Calls Tryd.prog 22 #[.slice a1 n1 c1] V fun e w' => e = .returned (.bool b2) ∧ Below V.heap.size V w'
  q3 : ∀ V, Below W.heap.size W V → Calls Tryd.prog 23 #[.slice a2 n2 c2, .func (.func 18) #[] #[.pointer (some ⟨P, 0, none⟩), .pointer (some ⟨K, 0, none⟩)]] V fun e w' => e = .returned (.bool b3) ∧ Below V.heap.size V w'
  q4 : ∀ V, Below W.heap.size W V → Calls Tryd.prog 20 #[.slice a3 n3 c3, .func (.func 24) #[] #[]] V fun e w' => e = .returned (.bool b4) ∧ Below V.heap.size V w'
theorem asks_any {W : World} {P K b : Nat} {a1 : Option Addr} {n1 c1 : Nat} {es : List (List UInt8)} {a2 : Option Addr} {n2 c2 : Nat} {ats : List (List UInt8 × List UInt8)} {a3 : Option Addr} {n3 c3 : Nat} {ss : List (List UInt8)}
    (h : PolW W a1 n1 c1 es a2 n2 c2 ats a3 n3 c3 ss) (hM : MayW W P K b a1 n1 c1 (.slice a2 n2 c2) (.slice a3 n3 c3)) (hT : UrlW W) : Asks W P K a1 n1 c1 a2 n2 c2 a3 n3 c3 (listB knownB es) (wholeB es) (listB (haveB es) ats) (listB leadB ss) where
  q1 V hV := onceK_any knownB a1 n1 c1 es V (h.is1.below hV) h.lc1 h.cm1 fun U hU l hl => (known_one (bs l) U (by rw [bs_size]; exact h.tx1 l hl)).mono fun _ _ x => x
  q2 V hV := tableWhole_any a1 n1 c1 es V (h.is1.below hV) h.sm1 h.tx1
  q3 V hV := onceA_any (haveB es) P K a2 n2 c2 ats V (h.is2.below hV) h.lc2 h.cm2 fun U hU l m hl =>
    have hVU := hV.trans (hU.mono hV.size)
    mayHave_any P K b a1 n1 c1 _ _ es l m U (h.is1.below hVU) (by have := h.sm1; omega) (h.tx2 _ hl).2 (hM.below hVU)
  q4 V hV := onceL_any leadB a3 n3 c3 ss V (h.is3.below hV) h.lc3 h.cm3 fun U hU l hl => mayLead_any l U (h.tx3 l hl) (url_below hT (hV.trans (hU.mono hV.size)))
set_option maxHeartbeats 4000000 in
theorem check_any (a1 : Option Addr) (n1 c1 : Nat) (es : List (List UInt8)) (a2 : Option Addr) (n2 c2 : Nat) (ats : List (List UInt8 × List UInt8)) (a3 : Option Addr) (n3 c3 : Nat) (ss : List (List UInt8)) (w : World)
    (h : PolW w a1 n1 c1 es a2 n2 c2 ats a3 n3 c3 ss) (hT : UrlW w) :
    Calls Tryd.prog 9 #[.agg #[.slice a1 n1 c1, .slice a2 n2 c2, .slice a3 n3 c3]] w fun e w' => e = chk (okB es ats ss) ∧ Below w.heap.size w w' := by
  have HH := hid h
  have HT := hid hT
  have HA := hid attributes_any
  have hOK := hid (show okB es ats ss = (listB knownB es && (wholeB es && (listB (haveB es) ats && listB leadB ss))) from rfl)
  have HQ := hid (fun (W : World) (P K b : Nat) (h : PolW W a1 n1 c1 es a2 n2 c2 ats a3 n3 c3 ss) (hM : MayW W P K b a1 n1 c1 (.slice a2 n2 c2) (.slice a3 n3 c3)) (hT : UrlW W) => asks_any h hM hT)
  generalize okB es ats ss = ok at hOK ⊢
  generalize listB knownB es = b1 at hOK HQ
  generalize wholeB es = b2 at hOK HQ
  generalize listB (haveB es) ats = b3 at hOK HQ
  generalize listB leadB ss = b4 at hOK HQ
  clear h hT
  have hmf : ∀ (fn : Fn) (first cap : Array Value) (w : World), (Instr.makeFunc fn first cap).run Tryd.prog w = .ok (.func fn first cap) w := fun _ _ _ _ => rfl
  go_enter Tryd.func9, Tryd.ntmps9
  have b0 := (Below.refl w.heap.size w).alloc (Nat.le_refl _) (.cells #[.slice a1 n1 c1, .slice a2 n2 c2, .slice a3 n3 c3] 25)
  have g0 : (w.alloc (.cells #[.slice a1 n1 c1, .slice a2 n2 c2, .slice a3 n3 c3] 25)).cell? ⟨w.heap.size, 0, none⟩ = some (.slice a1 n1 c1) := by simp
  have g1 : (w.alloc (.cells #[.slice a1 n1 c1, .slice a2 n2 c2, .slice a3 n3 c3] 25)).cell? ⟨w.heap.size, 1, none⟩ = some (.slice a2 n2 c2) := by simp
  have g2 : (w.alloc (.cells #[.slice a1 n1 c1, .slice a2 n2 c2, .slice a3 n3 c3] 25)).cell? ⟨w.heap.size, 2, none⟩ = some (.slice a3 n3 c3) := by simp
  go_wp2_with fail
  generalize w.alloc (.cells #[.slice a1 n1 c1, .slice a2 n2 c2, .slice a3 n3 c3] 25) = W at *
  obtain ⟨P, hP⟩ : ∃ P, w.heap.size = P := ⟨_, rfl⟩
  rw [hP] at g0 g1 g2 ⊢
  refine (HA.out _).mono ?_
  rintro e w1 ⟨rfl, hk, k1⟩
  obtain ⟨M, hM⟩ : ∃ M, W.heap.size = M := ⟨_, rfl⟩
  rw [hM] at hk ⊢
  have b1w := b0.trans (k1.mono b0.size)
  have b2w := hid (b1w.alloc b1w.size (.cells #[.map (some M)] 42))
  have k2 := k1.alloc k1.size (.cells #[.map (some M)] 42)
  obtain ⟨W2, hW2⟩ : ∃ W2, w1.alloc (.cells #[.map (some M)] 42) = W2 := ⟨_, rfl⟩
  have g3 : W2.cell? ⟨w1.heap.size, 0, none⟩ = some (.map (some M)) := by rw [← hW2]; simp
  have hkk := hk.below ((Below.refl _ _).alloc (Nat.le_refl _) (.cells #[.map (some M)] 42))
  rw [hW2] at b2w k2 hkk
  have r0 := (k2.cell (p := ⟨P, 0, none⟩) (World.block_lt_of_cell? _ _ g0)).trans g0
  have r1 := (k2.cell (p := ⟨P, 1, none⟩) (World.block_lt_of_cell? _ _ g1)).trans g1
  have r2 := (k2.cell (p := ⟨P, 2, none⟩) (World.block_lt_of_cell? _ _ g2)).trans g2
  have hMay : MayW W2 P w1.heap.size M a1 n1 c1 (.slice a2 n2 c2) (.slice a3 n3 c3) := ⟨r0, r1, r2, g3, hkk⟩
  obtain ⟨K, hK⟩ : ∃ K, w1.heap.size = K := ⟨_, rfl⟩
  rw [hK] at hMay
  have HS := hid (HQ.out W2 P K M (HH.out.below b2w.out) hMay (url_below HT.out b2w.out))
  have B2 := b2w
  have f0 : (w1.alloc (.cells #[.map (some M)] 42)).cell? ⟨P, 0, none⟩ = some (.slice a1 n1 c1) := by rw [hW2]; exact r0
  have HW2 := hid hW2
  have HKK := hid hK
  have R0 := hid r0
  have R1 := hid r1
  have R2 := hid r2
  clear b0 k1 hk b1w k2 g0 g1 g2 g3 hM hP hkk hMay hW2 hK r0 r1 r2 b2w
  go_wp2_with fail
  rw [HW2.out, HKK.out]
  have h0 : ∀ V, Below W2.heap.size W2 V → V.cell? ⟨P, 0, none⟩ = some (.slice a1 n1 c1) := fun V hV => (hV.cell (p := ⟨P, 0, none⟩) (World.block_lt_of_cell? _ _ R0.out)).trans R0.out
  have h1 : ∀ V, Below W2.heap.size W2 V → V.cell? ⟨P, 1, none⟩ = some (.slice a2 n2 c2) := fun V hV => (hV.cell (p := ⟨P, 1, none⟩) (World.block_lt_of_cell? _ _ R1.out)).trans R1.out
  have h2 : ∀ V, Below W2.heap.size W2 V → V.cell? ⟨P, 2, none⟩ = some (.slice a3 n3 c3) := fun V hV => (hV.cell (p := ⟨P, 2, none⟩) (World.block_lt_of_cell? _ _ R2.out)).trans R2.out
  have e0 : Below W2.heap.size W2 W2 := Below.refl _ _
  clear f0
  cases b1 with
  | false =>
    go_wp2_with fail
    refine (HS.out.q1 _ e0).mono ?_
    rintro e v1 ⟨rfl, k1⟩
    have e1 := e0.trans (k1.mono e0.size)
    clear k1
    go_wp2
    go_ret
    exact ⟨chk_no (by rw [hOK.out]; rfl), B2.out.trans (e1.mono B2.out.size)⟩
  | true =>
    cases b2 with
    | false =>
      go_wp2_with fail
      refine (HS.out.q1 _ e0).mono ?_
      rintro e v1 ⟨rfl, k1⟩
      have e1 := e0.trans (k1.mono e0.size)
      clear k1
      go_wp2_with fail
      refine (HS.out.q2 _ e1).mono ?_
      rintro e v2 ⟨rfl, k2⟩
      have e2 := e1.trans (k2.mono e1.size)
      clear k2
      go_wp2
      go_ret
      exact ⟨chk_no (by rw [hOK.out]; rfl), B2.out.trans (e2.mono B2.out.size)⟩
    | true =>
      cases b3 with
      | false =>
        go_wp2_with fail
        refine (HS.out.q1 _ e0).mono ?_
        rintro e v1 ⟨rfl, k1⟩
        have e1 := e0.trans (k1.mono e0.size)
        clear k1
        go_wp2_with fail
        refine (HS.out.q2 _ e1).mono ?_
        rintro e v2 ⟨rfl, k2⟩
        have e2 := e1.trans (k2.mono e1.size)
        clear k2
        go_wp2_with fail
        refine (HS.out.q3 _ e2).mono ?_
        rintro e v3 ⟨rfl, k3⟩
        have e3 := e2.trans (k3.mono e2.size)
        clear k3
        go_wp2
        go_ret
        exact ⟨chk_no (by rw [hOK.out]; rfl), B2.out.trans (e3.mono B2.out.size)⟩
      | true =>
        cases b4 with
        | false =>
          go_wp2_with fail
          refine (HS.out.q1 _ e0).mono ?_
          rintro e v1 ⟨rfl, k1⟩
          have e1 := e0.trans (k1.mono e0.size)
          clear k1
          go_wp2_with fail
          refine (HS.out.q2 _ e1).mono ?_
          rintro e v2 ⟨rfl, k2⟩
          have e2 := e1.trans (k2.mono e1.size)
          clear k2
          go_wp2_with fail
          refine (HS.out.q3 _ e2).mono ?_
          rintro e v3 ⟨rfl, k3⟩
          have e3 := e2.trans (k3.mono e2.size)
          clear k3
          go_wp2_with fail
          refine (HS.out.q4 _ e3).mono ?_
          rintro e v4 ⟨rfl, k4⟩
          have e4 := e3.trans (k4.mono e3.size)
          clear k4
          go_wp2
          go_ret
          exact ⟨chk_no (by rw [hOK.out]; rfl), B2.out.trans (e4.mono B2.out.size)⟩
        | true =>
          go_wp2_with fail
          refine (HS.out.q1 _ e0).mono ?_
          rintro e v1 ⟨rfl, k1⟩
          have e1 := e0.trans (k1.mono e0.size)
          clear k1
          go_wp2_with fail
          refine (HS.out.q2 _ e1).mono ?_
          rintro e v2 ⟨rfl, k2⟩
          have e2 := e1.trans (k2.mono e1.size)
          clear k2
          go_wp2_with fail
          refine (HS.out.q3 _ e2).mono ?_
          rintro e v3 ⟨rfl, k3⟩
          have e3 := e2.trans (k3.mono e2.size)
          clear k3
          go_wp2_with fail
          refine (HS.out.q4 _ e3).mono ?_
          rintro e v4 ⟨rfl, k4⟩
          have e4 := e3.trans (k4.mono e3.size)
          clear k4
          go_wp2
          go_ret
          exact ⟨chk_yes (by rw [hOK.out]; rfl), B2.out.trans (e4.mono B2.out.size)⟩
end Go.Proofs.YtpheaepifjcmiaaDoor
