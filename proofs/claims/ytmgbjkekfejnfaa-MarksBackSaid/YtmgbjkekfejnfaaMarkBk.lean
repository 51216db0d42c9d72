/- Walks over the statements of layer 12: MarksBack, over what the program is known to do. -/
import Derived.Test.YtmgbjkekfejnfaaMarkKn
import Derived.Test.YtmgbjkekfejnfaaMarkMu
import Derived.Test.YtmgbjkekfejnfaaMarkSm
import Derived.Test.YtmgbjkekfejnfaaMarkFw
namespace Go.Proofs.Ytmgbjkekfejnfaa
open Go.RowKit Go.Lib
set_option maxRecDepth 100000
set_option linter.unusedVariables false
/-- What has been pushed so far. -/
def SoFar (xs : List Mk.M) (w : World) (most : Nat) (v : Value) (wr : World) : Prop := ∃ a c rs ys, v = .slice a ys.length c ∧ MarksIn a ys.length c rs ys wr ∧ Mk.Ahead xs (bareX (-1) []) ys ∧ ys.length ≤ most ∧ Below w.heap.size w wr ∧ ShortM ys
set_option maxHeartbeats 16000000 in
theorem mback_any (K : MarksC) (a : Option Addr) (n c : Nat) (rs : List MR) (xs : List Mk.M) (b : Option Addr) (m d : Nat) (ss : List MR) (ys : List Mk.M) (w : World) (h : RowM w a n rs) (hC : CamesM w rs xs) (h1 : n ≤ c) (h2 : c ≤ 9223372036854775807) (hsn : ShortM xs) (hsm : ShortM ys)
    (g : RowM w b m ss) (gC : CamesM w ss ys) (g1 : m ≤ d) (g2 : d ≤ 9223372036854775807) :
    Calls Try.prog 6 #[.slice a n c, .slice b m d] w fun e w' => e = .returned (.bool true) ∧ Below w.heap.size w w' := by
  have HM1 := hid fun W (hb : Below w.heap.size w W) => muchM_any a n c rs xs W (h.below hb) (hC.below hb) h1 h2
  have HM2 := hid fun W (hb : Below w.heap.size w W) => muchM_any b m d ss ys W (g.below hb) (gC.below hb) g1 g2
  have HKN := hid fun W => knownM_any K W
  have HIN := hid fun (hn : n ≤ 1500) => (show MarksIn a n c rs xs w from ⟨h, hC.fits, by omega, h1, h2⟩)
  have HIM := hid fun (hm : m ≤ 60) => (show MarksIn b m d ss ys w from ⟨g, gC.fits, by omega, g1, g2⟩)
  have HP := hid K.push
  have HCL := hid K.clear
  have HSN := hid hsn
  have HSM := hid hsm
  clear h hC g gC hsn hsm
  go_enter Try.func6, Try.ntmps6
  go_wp2_with fail
  refine (HM1.out _ (Below.refl _ w)).mono ?_
  rintro e w1 ⟨⟨b1, rfl, hb1⟩, bx⟩
  have B1 := hid bx
  clear bx HM1
  cases b1 with
  | true =>
    go_wp2_with fail
    refine (HKN.out w1).mono ?_
    rintro e w2 ⟨rfl, bx⟩
    have B2 := hid (B1.out.trans (bx.mono B1.out.size))
    clear bx
    go_wp2
    go_ret
    exact ⟨rfl, B2.out⟩
  | false =>
    have hn := hb1 rfl
    go_wp2_with fail
    refine (HM2.out _ B1.out).mono ?_
    rintro e w2 ⟨⟨b2, rfl, hb2⟩, bx⟩
    have B2 := hid (B1.out.trans (bx.mono B1.out.size))
    clear bx HM2
    cases b2 with
    | true =>
      go_wp2_with fail
      refine (HKN.out w2).mono ?_
      rintro e w3 ⟨rfl, bx⟩
      have B3 := hid (B2.out.trans (bx.mono B2.out.size))
      clear bx
      go_wp2
      go_ret
      exact ⟨rfl, B3.out⟩
    | false =>
      by_cases hm : m ≤ 60
      · have d1 : decide ((60 : Int) < (m : Int)) = false := decide_eq_false (by omega)
        have d1' : ¬ (60 : Int) < (m : Int) := by omega
        have I0 := hid (HIN.out hn)
        have J0 := hid (HIM.out hm)
        have hxl : xs.length = n := I0.out.len
        go_wp2_with fail
        refine (HKN.out w2).mono ?_
        rintro e w3 ⟨rfl, bx⟩
        have B3 := hid (B2.out.trans (bx.mono B2.out.size))
        clear bx hb1 hb2 HIN HIM B1 B2 d1 d1'
        go_wp2_with fail
        refine (HP.out a n c rs xs (bareR (-1) []) (bareX (-1) []) w3 (I0.out.below B3.out) (bare_fit _ _ _) (by omega) HSN.out (by decide)).mono ?_
        rintro e w4 ⟨⟨a4, c4, r4, rfl, m4, _⟩, bx⟩
        have hpl := Mk.push_len xs (bareX (-1) [])
        have HS0 := hid (show SoFar xs w (n + 1 + 0) (.slice a4 (Mk.pushL xs (bareX (-1) [])).length c4) w4 from ⟨a4, c4, r4, _, rfl, m4, Mk.ahead_mark xs _ (by decide), by omega, B3.out.trans (bx.mono B3.out.size), HSN.out.push (by decide)⟩)
        generalize (Mk.pushL xs (bareX (-1) [])).length = p4 at *
        clear m4 bx hpl
        go_wp2
        go_loopw [5, 6] (fun v vi wr => ∃ (k : Nat), vi = .int .i64 k ∧ k ≤ m ∧ Hid (SoFar xs w (n + 1 + k) v wr)) (fun _ vi _ => m - (RowKit.intOf vi).toNat)
        case atStart => exact ⟨0, rfl, Nat.zero_le _, HS0⟩
        case round =>
          clear HS0
          obtain ⟨k, rfl, hk, hS⟩ := hrel
          obtain ⟨av, cv, rv, yv, rfl, mv, av2, lv, bv, sv⟩ := hS.out
          clear hS
          obtain ⟨pl, hpl⟩ : ∃ pl, yv.length = pl := ⟨_, rfl⟩
          rw [hpl] at mv lv ⊢
          have HPL := hid hpl
          clear hpl
          have MV := hid mv
          have AV := hid av2
          have BV := hid bv
          have SV := hid sv
          clear mv av2 bv sv
          by_cases hlt : k < m
          · have d1 : decide (k < m) = true := decide_eq_true hlt
            have hltI : (k : Int) < (m : Int) := by omega
            obtain ⟨blk, off, r, x, rfl, hr, hx, f, c0, c1, c2⟩ := (J0.out.below BV.out).get hlt
            have c0' : wr.cell? ⟨blk, off + k * 3, none⟩ = some (.int .i64 r.id) := by rw [c0, f.id]
            have c1' : wr.cell? ⟨blk, off + k * 3 + 1, none⟩ = some (.string (bs r.name)) := by rw [c1, f.name]
            have HF := hid f
            have HXN := hid (HSM.out x (List.mem_of_getElem? hx))
            clear c0 c1 f hr hx
            by_cases hneg : 0 ≤ r.id
            · have d2 : decide ((0 : Int) ≤ r.id) = true := decide_eq_true hneg
              go_wp2_with fail
              refine (HP.out av pl cv rv yv r x wr MV.out HF.out (by omega) SV.out HXN.out).mono ?_
              rintro e w5 ⟨⟨a5, c5, r5, rfl, m5, _⟩, bx⟩
              have hp5 := Mk.push_len yv x
              have HS := hid (show SoFar xs w (n + 1 + (k + 1)) (.slice a5 (Mk.pushL yv x).length c5) w5 from ⟨a5, c5, r5, _, rfl, m5, Mk.ahead_push AV.out (by decide) (by rw [← HF.out.id]; exact hneg), by have := HPL.out; omega, BV.out.trans (bx.mono BV.out.size), SV.out.push HXN.out⟩)
              generalize (Mk.pushL yv x).length = p5 at *
              clear m5 bx hp5 c0' c1' c2
              go_wp2
              go_roundw
              case rel => exact ⟨k + 1, by go_num, by omega, HS⟩
              case measure => simp [RowKit.intOf]; omega
            · have d2 : decide ((0 : Int) ≤ r.id) = false := decide_eq_false hneg
              have HS := hid (show SoFar xs w (n + 1 + (k + 1)) (.slice av pl cv) wr from ⟨av, cv, rv, yv, by rw [HPL.out], by rw [HPL.out]; exact MV.out, AV.out, by have := HPL.out; omega, BV.out, SV.out⟩)
              clear c1' c2
              go_wp2
              go_roundw
              case rel => exact ⟨k + 1, by go_num, by omega, HS⟩
              case measure => simp [RowKit.intOf]; omega
          · have d1 : decide (k < m) = false := decide_eq_false hlt
            have hltI : ¬ (k : Int) < (m : Int) := by omega
            have hcl := Mk.ahead_clear AV.out (show (bareX (-1) []).id < 0 by decide)
            have HCC := hid (HCL.out av pl cv rv yv wr MV.out (by omega) SV.out)
            rw [hcl] at HCC
            clear hcl
            go_wp2_with fail
            refine HCC.out.mono ?_
            rintro e w6 ⟨⟨a6, c6, r6, rfl, m6, _⟩, bx⟩
            have B6 := hid (BV.out.trans (bx.mono BV.out.size))
            rw [hxl] at m6 ⊢
            have HSA := hid (sameM_any a6 n c6 r6 xs a n c rs xs w6 m6 (I0.out.below B6.out))
            clear m6 bx HCC
            go_wp2_with fail
            refine HSA.out.mono ?_
            rintro e w7 ⟨⟨b7, rfl, hb7⟩, bx⟩
            have B7 := hid (B6.out.trans (bx.mono B6.out.size))
            have ht : b7 = true := by simpa using hb7
            subst ht
            clear bx HSA
            go_wp2
            go_ret
            exact ⟨rfl, B7.out⟩
      · have d1 : decide ((60 : Int) < (m : Int)) = true := decide_eq_true (by omega)
        have d1' : (60 : Int) < (m : Int) := by omega
        go_wp2_with fail
        refine (HKN.out w2).mono ?_
        rintro e w3 ⟨rfl, bx⟩
        have B3 := hid (B2.out.trans (bx.mono B2.out.size))
        clear bx
        go_wp2
        go_ret
        exact ⟨rfl, B3.out⟩
end Go.Proofs.Ytmgbjkekfejnfaa
