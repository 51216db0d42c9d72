/- Walks: the statement DomOwn of layer 10, over what the program's tree is known to do. Written by tools/gen_domown.py. -/
import Derived.Test.YthbklcpjbeelhaaDomJ
import Derived.Test.YthbklcpjbeelhaaNodeLend2
import Derived.Test.YthbklcpjbeelhaaNodeSpoil
import Derived.Deep.RegionHeld3
namespace Go.Proofs.Ythbklcpjbeelhaa
open Go.RowKit Go.Lib
set_option maxRecDepth 100000
set_option linter.unusedVariables false

/-- The program's tree is t. -/
def One (P : World → Nat → Nat → (Nat → Prop) → Dom.T → Prop) (w0 w : World) (R : Nat) (t : Dom.T) : Prop := Below w0.heap.size w0 w ∧ ∃ S, P w w0.heap.size R S t
theorem One.below {EW : World → Prop} {P : World → Nat → Nat → (Nat → Prop) → Dom.T → Prop} (HC : DomC EW P) {w0 w w' : World} {R : Nat} {t : Dom.T} (h : One P w0 w R t) (hb : Below w.heap.size w w') : One P w0 w' R t := by
  obtain ⟨h1, S, h2⟩ := h
  exact ⟨h1.trans (hb.mono h1.size), S, HC.below h2 hb⟩
theorem one_mk {EW : World → Prop} {P : World → Nat → Nat → (Nat → Prop) → Dom.T → Prop} (HC : DomC EW P) {w0 w w' : World} {R : Nat} {t u : Dom.T} {S : Nat → Prop} (h1 : Below w0.heap.size w0 w) (h2 : P w w0.heap.size R S t) (hT : TurnedP P w w' w0.heap.size R S u) : One P w0 w' R u := by
  obtain ⟨S', g1, g2⟩ := hT
  exact ⟨g2.below h1 h1.size fun k hk => (HC.inb h2 k hk).1, S', g1⟩
theorem one_new {P : World → Nat → Nat → (Nat → Prop) → Dom.T → Prop} {w0 w w' : World} {R : Nat} (h1 : Below w0.heap.size w0 w) (hT : TurnedP P w w' w0.heap.size R (fun _ => False) Dom.tNew) : One P w0 w' R Dom.tNew := by
  obtain ⟨S', g1, g2⟩ := hT
  exact ⟨g2.below h1 h1.size fun k hk => hk.elim, S', g1⟩
/-- It abides what is written in a stretch that is not its own. -/
theorem One.turn {EW : World → Prop} {P : World → Nat → Nat → (Nat → Prop) → Dom.T → Prop} (HC : DomC EW P) {w0 w w1 w' : World} {R : Nat} {t : Dom.T} {S : Nat → Prop} (h1 : Below w0.heap.size w0 w) (h2 : P w w0.heap.size R S t) (hb : Below w.heap.size w w1) (hb2 : Below w.heap.size w w') (hsz : w1.heap.size ≤ w'.heap.size) : One P w0 w' R t :=
  ⟨h1.trans (hb2.mono h1.size), S, HC.below h2 hb2⟩

set_option maxHeartbeats 32000000 in
theorem down_any {EW : World → Prop} {P : World → Nat → Nat → (Nat → Prop) → Dom.T → Prop} (HC : DomC EW P) (HKN : DomKnownC EW) (HK : KeepsW EW) (d : Nat) (os : List DOp) (a : Option Addr) (n c : Nat) (w : World) (hT : EW w) (h : IsOps d w a n os) (hf : ∀ x ∈ os, opFits d x) (hn : n ≤ 9223372036854775807) :
    Calls Try.prog 5 #[.slice a n c] w fun e w' => e = .returned (.bool true) ∧ Below w.heap.size w w' := by
  have HT := hid hT
  have HKE := hid HK
  have HKK := hid HKN
  have HCC := hid HC
  have HH := hid h
  have HF := hid hf
  have HV0 := heavy_any d os a n c w h hf hn
  have HL0 := @heavyW_light d os n
  obtain ⟨Hv, hHv⟩ : ∃ Hv, heavyW d n os = Hv := ⟨_, rfl⟩
  rw [hHv] at HV0 HL0
  by_cases hh : 600 < Hv ∨ 150 < n
  · rw [show (decide (600 < Hv) || decide (150 < n)) = true by simpa using hh] at HV0
    have HV0 := hid HV0
    clear HL0 hHv hT h hf HC HKN HK hh
    go_enter Try.func5, Try.ntmps5
    go_wp2_with fail
    refine (HV0.out).mono ?_
    rintro e w1 ⟨rfl, b1⟩
    have B1 := hid b1
    clear b1
    go_wp2_with fail
    refine (HKK.out _ (HKE.out _ _ HT.out B1.out)).mono ?_
    rintro e w2 ⟨rfl, b2⟩
    have B2 := hid (B1.out.trans (b2.mono B1.out.size))
    clear b2
    go_wp2
    go_ret
    exact ⟨rfl, B2.out⟩
  · rw [show (decide (600 < Hv) || decide (150 < n)) = false by simpa using hh] at HV0
    have HV0 := hid HV0
    have hH6 : Hv ≤ 600 := by omega
    have hn150 : n ≤ 150 := by omega
    have HLI := hid (show ∀ x ∈ os, Dom.sumW (d + 1) [x.n] ≤ 600 from fun x hx => by
      have h1 := HL0 hH6
      have h2 : Dom.sumW (d + 1) [x.n] ≤ (os.map fun o => Dom.sumW (d + 1) [o.n]).sum := sum_ge (fun o => Dom.sumW (d + 1) [o.n]) hx
      omega)
    clear HL0 hHv hT h hf HKN HK hh hH6 HC
    have HC := HCC
    clear HCC
    go_enter Try.func5, Try.ntmps5
    go_wp2_with fail
    refine (HV0.out).mono ?_
    rintro e w1 ⟨rfl, b1⟩
    have B1 := hid b1
    clear b1
    go_wp2_with fail
    refine (HKK.out _ (HKE.out _ _ HT.out B1.out)).mono ?_
    rintro e w2 ⟨rfl, b2⟩
    have B2 := hid (B1.out.trans (b2.mono B1.out.size))
    clear b2
    go_wp2_with fail
    refine (HC.out.new _ w.heap.size (HKE.out _ _ HT.out B2.out) B2.out.size).mono ?_
    rintro e w3 ⟨R1, rfl, hN⟩
    have H0 := hid (one_new B2.out hN)
    clear hN
    go_wp2
    go_loopg [4] n (fun g iv wr => ∃ (j : Nat) (t : Dom.T), j + g = n ∧ iv = .int .i64 j ∧ Hid (One P w wr R1 t) ∧ Hid (Dom.Good t) ∧ Hid (Bnd t (j + 1) 1000))
    case atStart => exact ⟨0, Dom.tNew, by omega, rfl, H0, hid Dom.good_new, hid (bnd_new.wide (by omega) (by omega))⟩
    case round =>
      clear H0
      obtain ⟨j, t, hj, rfl, hOn, hGo, hBn⟩ := hrel
      by_cases hlt : j < n
      · have d1 : decide (j < n) = true := decide_eq_true hlt
        have hltI : (j : Int) < (n : Int) := by omega
        have hj150 : j < 150 := by omega
        obtain ⟨x, hx⟩ : ∃ x, os[j]? = some x := ⟨_, List.getElem?_eq_getElem (by have := HH.out.1; omega)⟩
        have hxm := List.mem_of_getElem? hx
        obtain ⟨b, off, rfl, hat⟩ := HH.out.2.resolve_left (by omega)
        obtain ⟨aa, an, ac, ka, kn, kc, X⟩ := hat j x hx
        obtain ⟨hb1, S1, hP1⟩ := hOn.out
        have XB := X.below hb1
        have hcx : Dom.sumW (d + 1) [x.n] ≤ 600 := HLI.out x hxm
        have hcost : Dom.cost x.n ≤ 600 := by
          have h1 : Dom.sumW (d + 1) [x.n] = (1 + x.n.text.length / 8 + x.n.name.length / 8) + Dom.sumA x.n.atts + Dom.sumW d x.n.kids + 0 := rfl
          unfold Dom.cost
          omega
        have hfa := (HF.out x hxm).2.2.2.2.1
        have x1 := XB.nd.c0
        have x2 := XB.nd.c1
        have x3 := XB.nd.c2
        have x4 := XB.nd.c3
        have x5 := XB.nd.c4
        have x6 := XB.nd.c5
        have hA0 := hid X.a7
        have hfit := hBn.out.fit (by omega) (by omega)
        have HC1 := hid (HC.out.make wr w.heap.size R1 S1 t x.n aa an ac ka kn kc (HKE.out _ _ HT.out hb1) hP1 hGo.out hfit hb1.size XB.nd.atts XB.nd.anil (by omega))
        have hGd := Dom.good_make hGo.out x.n
        have hBd := bnd_make hBn.out x.n (by omega)
        obtain ⟨PT, hPT⟩ : ∃ PT, Dom.makeT t x.n = PT := ⟨_, rfl⟩
        rw [hPT] at HC1 hGd hBd
        obtain ⟨t2, id⟩ := PT
        obtain ⟨A, hA⟩ : ∃ A, x.a = A := ⟨_, rfl⟩
        rw [hA] at hA0 hfa
        obtain ⟨m, hm⟩ : ∃ m : Nat, max A 0 = (m : Int) := ⟨(max A 0).toNat, by omega⟩
        have hmb : m ≤ 9223372036854775807 := by omega
        obtain ⟨q, hq⟩ : ∃ q : Nat, q = m % (j + 1) := ⟨_, rfl⟩
        have e1 : (m : Int).tmod ((j : Int) + 1) = (q : Int) := by
          rw [Int.tmod_eq_emod_of_nonneg (by omega), hq, show ((j : Int) + 1) = ((j + 1 : Nat) : Int) by omega]
          first | exact (Int.natCast_emod m (j + 1)).symm | exact (Int.ofNat_emod m (j + 1)).symm | rfl
        have e2 : ¬ (j : Int) + 1 = 0 := by omega
        obtain ⟨NM, hNM⟩ : ∃ NM, bs x.n.name = NM := ⟨_, rfl⟩
        obtain ⟨TX, hTX⟩ : ∃ TX, bs x.n.text = TX := ⟨_, rfl⟩
        obtain ⟨K, hK⟩ : ∃ K, x.n.kind = K := ⟨_, rfl⟩
        obtain ⟨SP, hSP⟩ : ∃ SP, x.n.space = SP := ⟨_, rfl⟩
        rw [hNM, hTX, hK, hSP] at HC1
        rw [hK] at x1
        rw [hSP] at x2
        rw [hNM] at x3
        rw [hTX] at x5
        have HON := hid fun w2 (hT1 : TurnedP P wr w2 w.heap.size R1 S1 t2) => one_mk HC.out hb1 hP1 hT1
        have HGd := hid hGd
        have HBd := hid hBd
        clear hx hxm hat X XB hcx hcost hb1 hP1 hfit hPT hGd hBd hA hq hNM hTX hK hSP
        go_wp2_with fail
        refine (HC1.out).mono ?_
        rintro e w2 ⟨rfl, hT1⟩
        have HO2 := hid (HON.out w2 hT1)
        clear hT1
        obtain ⟨hb2, S2, hP2⟩ := HO2.out
        have x7 := cell_up hA0.out hb2
        have HC2 := hid (HC.out.put w2 w.heap.size R1 S2 t2 (q : Int) (-1) id (HKE.out _ _ HT.out hb2) hP2 HGd.out (HBd.out.fit (by omega) (by omega)) hb2.size)
        have HON2 := hid fun w3 (hT1 : TurnedP P w2 w3 w.heap.size R1 S2 (Dom.putT t2 q (-1) id).1) => one_mk HC.out hb2 hP2 hT1
        have HG3 := hid (Dom.good_put HGd.out (q : Int) (-1) id)
        have HB3 : Hid (Bnd (Dom.putT t2 (q : Int) (-1) id).1 (j + 1 + 1) 1000) := hid (HBd.out.same (sameNd_put t2 (q : Int) (-1) id))
        obtain ⟨PT, hPT⟩ : ∃ PT, Dom.putT t2 (q : Int) (-1) id = PT := ⟨_, rfl⟩
        rw [hPT] at HC2 HON2 HG3 HB3
        clear hb2 hP2 hPT
        go_wp2_with fail
        refine (HC2.out).mono ?_
        rintro e w3 ⟨rfl, hT1⟩
        have HO3 := hid (HON2.out w3 hT1)
        clear hT1
        go_wp2
        go_roundg (n - (j + 1))
        case measure => omega
        case rel => exact ⟨j + 1, PT.1, by omega, by go_num, HO3, HG3, HB3⟩
      · have d1 : decide (j < n) = false := decide_eq_false hlt
        have hltI : ¬ (j : Int) < (n : Int) := by omega
        have hfit := hBn.out.fit (by omega) (by omega)
        obtain ⟨D, hD⟩ := HC.out.whole t hGo.out hfit
        have HW := hid (hD (D + 1) (Nat.lt_succ_self _))
        have hwt := hfit.whole hGo.out (D + 1) (D + 1) 0
        obtain ⟨NS, hNS⟩ : ∃ NS, Dom.wholeF (D + 1) t 0 = NS := ⟨_, rfl⟩
        rw [hNS] at HW hwt
        have HKI := hid fun W S hT hP => HC.out.kids W w.heap.size R1 S t 0 hT hP hGo.out hfit
        have hkl : (Dom.kidsT t 0).length ≤ 1000 := by
          unfold Dom.kidsT
          split
          · have := good_few hGo.out (0 : Int).toNat
            have := hfit.few
            omega
          · exact Nat.zero_le _
        obtain ⟨L, hL⟩ : ∃ L, Dom.kidsT t 0 = L := ⟨_, rfl⟩
        rw [hL] at HKI hkl
        clear hD hNS hL hfit
        obtain ⟨hb1, S1, hP1⟩ := hOn.out
        have HC1 := hid (HW.out wr w.heap.size R1 S1 (HKE.out _ _ HT.out hb1) hP1)
        have HP1 := hid hP1
        have HB1 := hid hb1
        clear hb1 hP1
        go_wp2_with fail
        refine (HC1.out).mono ?_
        rintro e w2 ⟨⟨a2, n2, c2, rfl, hD2, _⟩, b2⟩
        have n2e := hD2.isN.len
        have HL2 := hid (lentD_any (D + 1) (fun k => wr.heap.size ≤ k ∧ k < w2.heap.size) NS a2 n2 c2 w2 hD2.isN (by omega))
        have HD2 := hid hD2
        have HB2 := hid b2
        clear hD2 b2
        go_wp2_with fail
        refine (HL2.out).mono ?_
        rintro e w3 ⟨⟨a3, c3, rfl, hD3, _⟩, b3⟩
        have HD3 := hid hD3
        have HB3 := hid b3
        have hs23 := b3.size
        have HSP := hid (spoil_any (D + 1) wr.heap.size w2.heap.size NS a2 n2 c2 w3 (HD2.out.keep fun k q1 q2 => b3.block k q2) (by omega))
        clear hD3 b3
        go_wp2_with fail
        refine (HSP.out).mono ?_
        rintro e w4 ⟨rfl, b4, k4⟩
        have hs34 := b4.size
        have B4 := hid (HB2.out.trans ((HB3.out.mono HB2.out.size).trans b4))
        have HD4 := hid (HD3.out.keep (w' := w4) fun k q1 q2 => k4 k q1)
        have HP4 := hid (HC.out.below HP1.out B4.out)
        have hb4w := hid (HB1.out.trans (B4.out.mono HB1.out.size))
        have HC4 := hid (HKI.out w4 S1 (HKE.out _ _ HT.out hb4w.out) HP4.out)
        clear b4 k4
        go_wp2_with fail
        refine (HC4.out).mono ?_
        rintro e w5 ⟨⟨a5, c5, rfl, hI5, hnew5, _, hob5⟩, b5⟩
        have HI5 := hid hI5
        have HOB5 := hid hob5
        have HB5 := hid b5
        have hs45 := b5.size
        obtain ⟨kl, hkl2⟩ : ∃ kl, L.length = kl := ⟨_, rfl⟩
        rw [hkl2] at hkl
        rw [hkl2]
        have HKL := hid hkl2
        have HNW := hid hnew5
        clear hI5 hob5 b5 hkl2 hnew5
        go_wp2
        go_loopg [9] kl (fun g iv wr => ∃ (i : Nat), i + g = kl ∧ iv = .int .i64 i ∧ Hid (Below w4.heap.size w4 wr) ∧ Hid (OwnB wr 3 a5 kl) ∧ Hid (kl = 0 ∨ ∃ b5 cs, a5 = some ⟨b5, 0, none⟩ ∧ BlkW wr b5 cs 3 ∧ w4.heap.size ≤ b5 ∧ kl ≤ cs.size))
        case atStart => exact ⟨0, by omega, rfl, HB5, (by rw [← HKL.out]; exact HOB5), hid (by
          rcases HOB5.out with h | ⟨b5, cs, e, h⟩
          · exact .inl (by rw [← HKL.out]; exact h)
          · by_cases h0 : L.length = 0
            · exact .inl (by rw [← HKL.out]; exact h0)
            · refine .inr ⟨b5, cs, e, h, HNW.out _ e, ?_⟩
              obtain ⟨b6, o6, e6, hz⟩ := HI5.out.2.resolve_left h0
              rw [e] at e6
              cases e6
              obtain ⟨y, hy⟩ : ∃ y, L[L.length - 1]? = some y := ⟨_, List.getElem?_eq_getElem (by omega)⟩
              have hc := hz _ y hy
              rw [Nat.zero_add, h.cell] at hc
              have := (Array.getElem?_eq_some_iff.1 hc).1
              have := HKL.out
              omega)⟩
        case round =>
          obtain ⟨i, hi, rfl, hB, hOB, hBK⟩ := hrel
          by_cases hli : i < kl
          · have d2 : decide (i < kl) = true := decide_eq_true hli
            have hliI : (i : Int) < (kl : Int) := by omega
            obtain ⟨b5, cs, rfl, hK, hge, hsz⟩ := hBK.out.resolve_left (by omega)
            obtain ⟨y, hy⟩ : ∃ y, cs[i]? = some y := ⟨_, Array.getElem?_eq_getElem (by omega)⟩
            have c1 : wr.cell? ⟨b5, i, none⟩ = some y := (hK.cell i).trans hy
            have f1 := hK.free i
            have HB6 := hid (hB.out.setCell (p := ⟨b5, i, none⟩) hge (.int .i64 (-5)))
            have HK6 := hK.set_ i (.int .i64 (-5))
            have HOB6 : Hid (OwnB (wr.setCell ⟨b5, i, none⟩ (.int .i64 (-5))) 3 (some ⟨b5, 0, none⟩) kl) := hid (.inr ⟨b5, _, rfl, HK6⟩)
            have HBK6 := hid (show kl = 0 ∨ ∃ b6 cs, (some ⟨b5, 0, none⟩ : Option Addr) = some ⟨b6, 0, none⟩ ∧ BlkW (wr.setCell ⟨b5, i, none⟩ (.int .i64 (-5))) b6 cs 3 ∧ w4.heap.size ≤ b6 ∧ kl ≤ cs.size from .inr ⟨b5, _, rfl, HK6, hge, by rw [Array.size_setIfInBounds]; exact hsz⟩)
            clear hK hy HK6
            go_wp2
            go_roundg (kl - (i + 1))
            case measure => omega
            case rel => exact ⟨i + 1, by omega, by go_num, HB6, HOB6, HBK6⟩
          · have d2 : decide (i < kl) = false := decide_eq_false hli
            have hliI : ¬ (i : Int) < (kl : Int) := by omega
            have B7 := hid (hb4w.out.trans (hB.out.mono hb4w.out.size))
            have HP7 := hid (HC.out.below HP4.out hB.out)
            have HC7 := hid (HW.out wr w.heap.size R1 S1 (HKE.out _ _ HT.out B7.out) HP7.out)
            have HD7 := hid (HD4.out.keep (w' := wr) fun k q1 q2 => hB.out.block k (by omega))
            clear hOB hBK
            go_wp2_with fail
            refine (HC7.out).mono ?_
            rintro e w8 ⟨⟨a8, n8, c8, rfl, hD8, _⟩, b8⟩
            have n8e := hD8.isN.len
            obtain rfl : n8 = n2 := by omega
            have HSN := hid (sameN_any (D + 1) _ _ NS a8 n8 c8 a3 c3 w8 hD8.isN (HD7.out.isN.below b8) (by omega))
            have B8 := hid (B7.out.trans (b8.mono B7.out.size))
            have HP8 := hid (HC.out.below HP7.out b8)
            clear hD8 b8
            go_wp2_with fail
            refine (HSN.out).mono ?_
            rintro e w9 ⟨rfl, b9⟩
            have B9 := hid (B8.out.trans (b9.mono B8.out.size))
            have HC9 := hid (HKI.out w9 S1 (HKE.out _ _ HT.out B9.out) (HC.out.below HP8.out b9))
            clear b9
            go_wp2_with fail
            refine (HC9.out).mono ?_
            rintro e w10 ⟨⟨a10, c10, rfl, _⟩, b10⟩
            have B10 := hid (B9.out.trans (b10.mono B9.out.size))
            clear b10
            rw [HKL.out]
            go_wp2
            go_ret
            exact ⟨rfl, B10.out⟩
end Go.Proofs.Ythbklcpjbeelhaa
