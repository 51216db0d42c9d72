/- The walk of the statement RuleChecks. -/
import Derived.Test.YtpheaepifjcmiaaDoorKnownR
import Derived.Test.YtpheaepifjcmiaaDoorFrameU
import Derived.Test.YtpheaepifjcmiaaDoorRefCheck
import Derived.Test.YtpheaepifjcmiaaDoorPolArg
namespace Go.Proofs.YtpheaepifjcmiaaDoor.ruleChecks
open Go.ChangeShapes Go.WideShapes Go.ChangeAt Go.RowKit Go.Lib
open Go.ChangeMaps (open_string shut_string)
set_option maxRecDepth 100000
set_option linter.unusedVariables false

theorem chk_of {b : Bool} (h : b = true) : chk b = .returned (.int .u16 0) := by rw [h]; rfl
theorem chk_of' {b : Bool} (h : b = false) : chk b = .returned (.int .u16 50) := by rw [h]; rfl
theorem rchk_of {b : Bool} (h : b = true) : rchk b = .returned (.int .i64 0) := by rw [h]; rfl
theorem rchk_of' {b : Bool} (h : b = false) : rchk b = .returned (.int .i64 50) := by rw [h]; rfl
set_option maxHeartbeats 4000000 in
theorem walk (w : World) (hT : UrlW w) (a1 : Option Addr) (n1 c1 : Nat) (es : List (List UInt8)) (a2 : Option Addr) (n2 c2 : Nat) (ats : List (List UInt8 × List UInt8)) (a3 : Option Addr) (n3 c3 : Nat) (ss : List (List UInt8))
    (h : PolIn w a1 n1 c1 es a2 n2 c2 ats a3 n3 c3 ss) (o1 : a1 = none → c1 = 0) (o2 : a2 = none → c2 = 0) (o3 : a3 = none → c3 = 0) :
    Calls Tryd.prog 3 #[.agg #[.slice a1 n1 c1, .slice a2 n2 c2, .slice a3 n3 c3]] w fun e w' => e = .returned (.bool true) ∧ Below w.heap.size w w' := by
  have HT := hid hT
  have HI := hid h
  have O1 := hid o1
  have O2 := hid o2
  have O3 := hid o3
  clear hT h o1 o2 o3
  have b0 := hid ((Below.refl w.heap.size w).alloc (Nat.le_refl _) (.cells #[.slice a1 n1 c1, .slice a2 n2 c2, .slice a3 n3 c3] 25))
  have hb1 := hid (BlkW.new w #[.slice a1 n1 c1, .slice a2 n2 c2, .slice a3 n3 c3] 25)
  go_enter Tryd.func3, Tryd.ntmps3
  go_wp2_with fail
  obtain ⟨W, hW⟩ : ∃ W, w.alloc (.cells #[.slice a1 n1 c1, .slice a2 n2 c2, .slice a3 n3 c3] 25) = W := ⟨_, rfl⟩
  obtain ⟨P, hP⟩ : ∃ P, w.heap.size = P := ⟨_, rfl⟩
  rw [hW] at b0 hb1 ⊢
  rw [hP] at hb1 ⊢
  have h0 : ∀ V, Below W.heap.size W V → V.cell? ⟨P, 0, none⟩ = some (.slice a1 n1 c1) := fun V hV => (hb1.out.below hV hb1.out.lt).cell 0
  have h1 : ∀ V, Below W.heap.size W V → V.cell? ⟨P, 1, none⟩ = some (.slice a2 n2 c2) := fun V hV => (hb1.out.below hV hb1.out.lt).cell 1
  have h2 : ∀ V, Below W.heap.size W V → V.cell? ⟨P, 2, none⟩ = some (.slice a3 n3 c3) := fun V hV => (hb1.out.below hV hb1.out.lt).cell 2
  have e0 : Below W.heap.size W W := Below.refl _ _
  have HPp := hid hP
  clear hW hP
  refine (much_any a1 n1 c1 es a2 n2 c2 ats a3 n3 c3 ss _ (HI.out.below b0.out)).mono ?_
  rintro e v1 ⟨j1, b, rfl, hb⟩
  have e1 := e0.trans (j1.mono e0.size)
  clear j1
  cases b with
  | true =>
    clear hb
    go_wp2
    go_ret
    exact ⟨rfl, b0.out.trans (e1.mono b0.out.size)⟩
  | false =>
    have HPol := hid (hb rfl)
    clear hb
    go_wp2_with fail
    refine (lent_any a1 n1 c1 es a2 n2 c2 ats a3 n3 c3 ss _ (HPol.out.below e1) O1.out O2.out O3.out).mono ?_
    rintro e v2 ⟨x1, k1, x2, k2, x3, k3, rfl, hown, _, _, _, _, _, _, j2⟩
    have e2 := e1.trans (j2.mono e1.size)
    have hown := hid (hown.below ((Below.refl _ _).alloc (Nat.le_refl _) (.cells #[.slice x1 n1 k1, .slice x2 n2 k2, .slice x3 n3 k3] 25)))
    have hb3 := hid (BlkW.new v2 #[.slice x1 n1 k1, .slice x2 n2 k2, .slice x3 n3 k3] 25)
    have e3 := e2.alloc e2.size (.cells #[.slice x1 n1 k1, .slice x2 n2 k2, .slice x3 n3 k3] 25)
    clear j2
    go_wp2_with fail
    obtain ⟨W3, hW3⟩ : ∃ W3, v2.alloc (.cells #[.slice x1 n1 k1, .slice x2 n2 k2, .slice x3 n3 k3] 25) = W3 := ⟨_, rfl⟩
    obtain ⟨Q, hQ⟩ : ∃ Q, v2.heap.size = Q := ⟨_, rfl⟩
    rw [hW3] at hown hb3 e3 ⊢
    rw [hQ] at hb3 ⊢
    have i0 : ∀ V, Below W3.heap.size W3 V → V.cell? ⟨Q, 0, none⟩ = some (.slice x1 n1 k1) := fun V hV => (hb3.out.below hV hb3.out.lt).cell 0
    have i1 : ∀ V, Below W3.heap.size W3 V → V.cell? ⟨Q, 1, none⟩ = some (.slice x2 n2 k2) := fun V hV => (hb3.out.below hV hb3.out.lt).cell 1
    have i2 : ∀ V, Below W3.heap.size W3 V → V.cell? ⟨Q, 2, none⟩ = some (.slice x3 n3 k3) := fun V hV => (hb3.out.below hV hb3.out.lt).cell 2
    have f0 : Below W3.heap.size W3 W3 := Below.refl _ _
    clear hW3 hQ e2
    have C1 := hid (check_any x1 n1 k1 es x2 n2 k2 ats x3 n3 k3 ss)
    have C2 := hid (rcheck_any a1 n1 c1 es a2 n2 c2 ats a3 n3 c3 ss)
    have C3 := hid (fun V (hV : Below W3.heap.size W3 V) (hV' : Below W.heap.size W V) => sameP_any x1 n1 k1 es x2 n2 k2 ats x3 n3 k3 ss a1 n1 c1 es a2 n2 c2 ats a3 n3 c3 ss V (hown.out.below hV).three (HPol.out.below hV').three)
    have C3' : ∀ V, Below W3.heap.size W3 V → Below W.heap.size W V → Calls Tryd.prog 12 #[.agg #[.slice x1 n1 k1, .slice x2 n2 k2, .slice x3 n3 k3], .agg #[.slice a1 n1 c1, .slice a2 n2 c2, .slice a3 n3 c3]] V fun e w' => e = .returned (.bool true) ∧ Below V.heap.size V w' := by
      intro V hV hV'
      refine (C3.out V hV hV').mono fun e w' hh => ⟨?_, hh.2⟩
      rw [hh.1]
      simp
    have C3 := hid C3'
    clear C3'
    cases hok : Rule.okB es ats ss with
    | true =>
      have C1 := hid (fun V h hT => (C1.out V h hT).mono (fun e w' (hh : e = chk (Rule.okB es ats ss) ∧ Below V.heap.size V w') => (⟨hh.1.trans (chk_of hok), hh.2⟩ : e = _ ∧ Below V.heap.size V w')))
      have C2 := hid (fun V h => (C2.out V h).mono (fun e w' (hh : e = rchk (Rule.okB es ats ss) ∧ Below V.heap.size V w') => (⟨hh.1.trans (rchk_of hok), hh.2⟩ : e = _ ∧ Below V.heap.size V w')))
      clear hok
      refine (C1.out _ (hown.out.below f0) (url_below HT.out (b0.out.trans (e3.mono b0.out.size)))).mono ?_
      rintro e v4 ⟨rfl, j4⟩
      have f4 := f0.trans (j4.mono f0.size)
      have e4 := e3.trans (j4.mono e3.size)
      clear j4
      go_wp2_with fail
      refine (known5_any _ (url_below HT.out (b0.out.trans (e4.mono b0.out.size)))).mono ?_
      rintro e v5 ⟨rfl, j5⟩
      have f5 := f4.trans (j5.mono f4.size)
      have e5 := e4.trans (j5.mono e4.size)
      clear j5
      go_wp2_with fail
      refine (C2.out _ (HPol.out.below e5)).mono ?_
      rintro e v6 ⟨rfl, j6⟩
      have f6 := f5.trans (j6.mono f5.size)
      have e6 := e5.trans (j6.mono e5.size)
      clear j6
      go_wp2_with fail
      refine (C3.out _ f6 e6).mono ?_
      rintro e v7 ⟨rfl, j7⟩
      have e7 := e6.trans (j7.mono e6.size)
      clear j7
      go_wp2
      go_ret
      exact ⟨rfl, b0.out.trans (e7.mono b0.out.size)⟩
    | false =>
      have C1 := hid (fun V h hT => (C1.out V h hT).mono (fun e w' (hh : e = chk (Rule.okB es ats ss) ∧ Below V.heap.size V w') => (⟨hh.1.trans (chk_of' hok), hh.2⟩ : e = _ ∧ Below V.heap.size V w')))
      have C2 := hid (fun V h => (C2.out V h).mono (fun e w' (hh : e = rchk (Rule.okB es ats ss) ∧ Below V.heap.size V w') => (⟨hh.1.trans (rchk_of' hok), hh.2⟩ : e = _ ∧ Below V.heap.size V w')))
      clear hok
      refine (C1.out _ (hown.out.below f0) (url_below HT.out (b0.out.trans (e3.mono b0.out.size)))).mono ?_
      rintro e v4 ⟨rfl, j4⟩
      have f4 := f0.trans (j4.mono f0.size)
      have e4 := e3.trans (j4.mono e3.size)
      clear j4
      go_wp2_with fail
      refine (known5_any _ (url_below HT.out (b0.out.trans (e4.mono b0.out.size)))).mono ?_
      rintro e v5 ⟨rfl, j5⟩
      have f5 := f4.trans (j5.mono f4.size)
      have e5 := e4.trans (j5.mono e4.size)
      clear j5
      go_wp2_with fail
      refine (C2.out _ (HPol.out.below e5)).mono ?_
      rintro e v6 ⟨rfl, j6⟩
      have f6 := f5.trans (j6.mono f5.size)
      have e6 := e5.trans (j6.mono e5.size)
      clear j6
      go_wp2_with fail
      refine (C3.out _ f6 e6).mono ?_
      rintro e v7 ⟨rfl, j7⟩
      have e7 := e6.trans (j7.mono e6.size)
      clear j7
      go_wp2
      go_ret
      exact ⟨rfl, b0.out.trans (e7.mono b0.out.size)⟩
end Go.Proofs.YtpheaepifjcmiaaDoor.ruleChecks
