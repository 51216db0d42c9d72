/- Walks: the statement DomDoes of layer 10, over what the program's tree is known to do. Written by tools/gen_domdoes.py. -/
import Derived.Test.YthbklcpjbeelhaaDomJ
import Derived.Test.YthbklcpjbeelhaaRefPut
import Derived.Test.YthbklcpjbeelhaaRefMake
import Derived.Test.YthbklcpjbeelhaaRefMove
import Derived.Test.YthbklcpjbeelhaaRefWrite
import Derived.Test.YthbklcpjbeelhaaNodeLend2
import Derived.Test.YthbklcpjbeelhaaNodeSpoil
import Derived.Deep.RegionHeld3
namespace Go.Proofs.Ythbklcpjbeelhaa
open Go.RowKit Go.Lib
set_option maxRecDepth 100000
set_option linter.unusedVariables false

theorem make_res (t : Dom.T) (x : Dom.N) : (Dom.makeT t x).2 = -1 ∨ (Dom.makeT t x).2 = (t.length : Int) := by
  unfold Dom.makeT
  split
  · exact .inl rfl
  · exact .inr rfl
theorem make_res_copy (t : Dom.T) (i : Int) : (Dom.copyT t i).2 = -1 ∨ (Dom.copyT t i).2 = (t.length : Int) := by
  unfold Dom.copyT
  split
  · exact .inl rfl
  · exact make_res _ _
theorem blk_q {W : World} {g : Nat} {c0 c1 c2 c3 c4 c5 c6 c7 c8 c9 : Value} {T : TypeId} (h : BlkW W g #[c0, c1, c2, c3, c4, c5, c6, c7, c8, c9] T) : W.cell? ⟨g, 5, none⟩ = some c5 ∧ W.cell? ⟨g, 7, none⟩ = some c7 ∧ W.cell? ⟨g, 8, none⟩ = some c8 ∧ W.cell? ⟨g, 9, none⟩ = some c9 := ⟨h.cell 5, h.cell 7, h.cell 8, h.cell 9⟩
theorem turned_blk {w w' : World} {base R g : Nat} {S : Nat → Prop} {t : Dom.T} {cs : Array Value} {T : TypeId} (hT : Turned w w' base R S t) (h : BlkW w g cs T) (hn : ¬ S g) : BlkW w' g cs T := by
  obtain ⟨S', _, k⟩ := hT
  exact k.blk h hn
set_option maxHeartbeats 64000000 in
theorem ddoes_any {EW : World → Prop} {P : World → Nat → Nat → (Nat → Prop) → Dom.T → Prop} (HC : DomC EW P) (HKN : DomKnownC EW) (HK : KeepsW EW) (d : Nat) (os : List DOp) (a : Option Addr) (n c : Nat) (w : World) (hT : EW w) (h : IsOps d w a n os) (hf : ∀ x ∈ os, opFits d x) (hn : n ≤ 9223372036854775807) :
    Calls Try.prog 3 #[.slice a n c] w fun e w' => e = .returned (.bool true) ∧ Below w.heap.size w w' := by
  have HT := hid hT
  have HKE := hid HK
  have HKK := hid HKN
  have HCC := hid HC
  have HH := hid h
  have HF := hid hf
  have HV0 := heavy_any d os a n c w h hf hn
  have HL0 := @heavyW_light d os n
  obtain ⟨Hv, hHv⟩ : ∃ Hv, heavyW d n os = Hv := ⟨_, rfl⟩
  rw [hHv] at HV0 HL0
  by_cases hh : 600 < Hv ∨ 150 < n
  · rw [show (decide (600 < Hv) || decide (150 < n)) = true by simpa using hh] at HV0
    have HV0 := hid HV0
    clear HL0 hHv hT h hf HC HKN HK hh
    go_enter Try.func3, Try.ntmps3
    go_wp2_with fail
    refine (HV0.out).mono ?_
    rintro e w1 ⟨rfl, b1⟩
    have B1 := hid b1
    clear b1
    go_wp2_with fail
    refine (HKK.out _ (HKE.out _ _ HT.out B1.out)).mono ?_
    rintro e w2 ⟨rfl, b2⟩
    have B2 := hid (B1.out.trans (b2.mono B1.out.size))
    clear b2
    go_wp2
    go_ret
    exact ⟨rfl, B2.out⟩
  · rw [show (decide (600 < Hv) || decide (150 < n)) = false by simpa using hh] at HV0
    have HV0 := hid HV0
    have hH6 : Hv ≤ 600 := by omega
    have hn150 : n ≤ 150 := by omega
    have HLI := hid (show ∀ x ∈ os, Dom.sumW (d + 1) [x.n] ≤ 600 from fun x hx => by
      have h1 := HL0 hH6
      have h2 : Dom.sumW (d + 1) [x.n] ≤ (os.map fun o => Dom.sumW (d + 1) [o.n]).sum := sum_ge (fun o => Dom.sumW (d + 1) [o.n]) hx
      omega)
    clear HL0 hHv hT h hf HKN HK hh hH6 HC
    have HC := HCC
    clear HCC
    go_enter Try.func3, Try.ntmps3
    go_wp2_with fail
    refine (HV0.out).mono ?_
    rintro e w1 ⟨rfl, b1⟩
    have B1 := hid b1
    clear b1
    go_wp2_with fail
    refine (HKK.out _ (HKE.out _ _ HT.out B1.out)).mono ?_
    rintro e w2 ⟨rfl, b2⟩
    have B2 := hid (B1.out.trans (b2.mono B1.out.size))
    clear b2
    go_wp2_with fail
    refine (HC.out.new _ w.heap.size (HKE.out _ _ HT.out B2.out) B2.out.size).mono ?_
    rintro e w3 ⟨R1, rfl, hN⟩
    have HN3 := hid hN
    have hsz3 : w.heap.size ≤ w3.heap.size := by obtain ⟨S1, _, g⟩ := hN; have := g.size; have := B2.out.size; omega
    clear hN
    go_wp2_with fail
    refine (rnew_any _ w.heap.size hsz3).mono ?_
    rintro e w4 ⟨R2, rfl, b4, hX4⟩
    have H0 : Hid (Both P w w4 R1 R2 Dom.tNew) := hid (by
      obtain ⟨S1, g1, g2⟩ := HN3.out
      have hb3 : Below w.heap.size w w3 := g2.below B2.out B2.out.size (fun k e => e.elim)
      exact ⟨hb3.trans (b4.mono hb3.size), S1, _, HC.out.below g1 b4, hX4, fun k q1 q2 => by have := (HC.out.inb g1 k q1).2; have := q2.1; omega⟩)
    clear b4 hX4 HN3 hsz3
    go_wp2
    go_loopg [5, 6] n (fun g mv iv wr => ∃ (j most : Nat) (t : Dom.T), j + g = n ∧ iv = .int .i64 j ∧ mv = .int .i64 most ∧ most ≤ 2 * j ∧ Hid (Both P w wr R1 R2 t) ∧ Hid (Dom.Good t) ∧ Hid (Bnd t (j + 1) (1000 * (j + 1))))
    case atStart => exact ⟨0, 0, Dom.tNew, by omega, rfl, rfl, by omega, H0, hid Dom.good_new, hid (bnd_new.wide (by omega) (by omega))⟩
    case round =>
      clear H0
      obtain ⟨j, most, t, hj, rfl, rfl, hmost, hBo, hGo, hBn⟩ := hrel
      by_cases hlt : j < n
      · have d1 : decide (j < n) = true := decide_eq_true hlt
        have hltI : (j : Int) < (n : Int) := by omega
        have hj150 : j < 150 := by omega
        obtain ⟨x, hx⟩ : ∃ x, os[j]? = some x := ⟨_, List.getElem?_eq_getElem (by have := HH.out.1; omega)⟩
        have hxm := List.mem_of_getElem? hx
        obtain ⟨b, off, rfl, hat⟩ := HH.out.2.resolve_left (by omega)
        obtain ⟨aa, an, ac, ka, kn, kc, X⟩ := hat j x hx
        have XB := X.below hBo.out.1
        obtain ⟨fx, fk, _, _, fa, fb, fc⟩ := HF.out x hxm
        have hcx : Dom.sumW (d + 1) [x.n] ≤ 600 := HLI.out x hxm
        have hcost : Dom.cost x.n ≤ 600 := by
          have h1 : Dom.sumW (d + 1) [x.n] = (1 + x.n.text.length / 8 + x.n.name.length / 8) + Dom.sumA x.n.atts + Dom.sumW d x.n.kids + 0 := rfl
          unfold Dom.cost
          omega
        have htl : x.n.text.length / 8 ≤ 600 := by unfold Dom.cost at hcost; omega
        have x0 := XB.k0
        have x1 := XB.nd.c0
        have x2 := XB.nd.c1
        have x3 := XB.nd.c2
        have x4 := XB.nd.c3
        have x5 := XB.nd.c4
        have x6 := XB.nd.c5
        have x7 := XB.a7
        have x8 := XB.b8
        have x9 := XB.c9
        have hIA := XB.nd.atts
        have hIK := XB.nd.kids
        have hAN := XB.nd.anil
        have hKN := XB.nd.knil
        have hIA0 := X.nd.atts
        obtain ⟨K0, y, A, B, C⟩ := x
        simp only at x0 x1 x2 x3 x4 x5 x6 x7 x8 x9 hIA hIK hIA0 hcx hcost htl fk fa fb fc
        have HA0 := hid hIA0
        obtain ⟨S1, S2, hP0, hX0, hd⟩ := hBo.out.2
        have hS1 := fun k hk => (HC.out.inb hP0 k hk).2
        have hS2 := fun k hk => (hX0.inb k hk).2
        have HY := hid (And.intro hIA (And.intro hIK (And.intro hAN (And.intro hKN hcx))))
        obtain ⟨NM, hNM⟩ : ∃ NM, bs y.name = NM := ⟨_, rfl⟩
        obtain ⟨TX, hTX⟩ : ∃ TX, bs y.text = TX := ⟨_, rfl⟩
        obtain ⟨K, hK⟩ : ∃ K, y.kind = K := ⟨_, rfl⟩
        obtain ⟨SP, hSP⟩ : ∃ SP, y.space = SP := ⟨_, rfl⟩
        rw [hK] at x1
        rw [hSP] at x2
        rw [hNM] at x3
        rw [hTX] at x5
        have HV := hid (And.intro hNM (And.intro hTX (And.intro hK hSP)))
        have al := (Below.refl wr.heap.size wr).alloc (Nat.le_refl _) (.cells #[.int .u8 K0, .int .u8 K, .int .u8 SP, .string NM, .slice aa an ac, .string TX, .slice ka kn kc, .int .i64 A, .int .i64 B, .int .i64 C] 34)
        have OB0' := BlkW.new wr #[.int .u8 K0, .int .u8 K, .int .u8 SP, .string NM, .slice aa an ac, .string TX, .slice ka kn kc, .int .i64 A, .int .i64 B, .int .i64 C] 34
        have hb1' := hBo.out.1.trans (al.mono hBo.out.1.size)
        have hP1' := HC.out.below hP0 al
        have hX1' := hX0.below al
        have hIA1' := hIA.below al
        have hIK1' := hIK.below al
        have hLB1 : ¬ S1 wr.heap.size := fun e => Nat.lt_irrefl _ (hS1 _ e)
        have hLB2 : ¬ S2 wr.heap.size := fun e => Nat.lt_irrefl _ (hS2 _ e)
        obtain ⟨W1, hW1⟩ : ∃ W1, wr.alloc (.cells #[.int .u8 K0, .int .u8 K, .int .u8 SP, .string NM, .slice aa an ac, .string TX, .slice ka kn kc, .int .i64 A, .int .i64 B, .int .i64 C] 34) = W1 := ⟨_, rfl⟩
        rw [hW1] at OB0' hb1' hP1' hX1' hIA1' hIK1'
        have HW1 := hid hW1
        have OB0 := OB0'
        have hb1 := hb1'
        have hP1 := hP1'
        have hX1 := hX1'
        have hTW1 := HKE.out _ _ HT.out hb1
        have hb1d := hb1.drew
        have hTW1d := HKE.out _ _ HT.out hb1d
        have hP1d := HC.out.keep hP1 (Turn.refl (fun _ => False) W1).drew (fun _ _ e => e)
        have hX1d := hX1.keep (Turn.refl (fun _ => False) W1).drew (fun _ _ e => e)
        have OB0d : BlkW W1.drew wr.heap.size #[.int .u8 K0, .int .u8 K, .int .u8 SP, .string NM, .slice aa an ac, .string TX, .slice ka kn kc, .int .i64 A, .int .i64 B, .int .i64 C] 34 := OB0
        have hfit := hBn.out.fit (by omega) (by omega)
        have hfitR : t.length < 1000000 := by have := hfit.few; omega
        have o0 := OB0.cell 0
        have o1 := OB0.cell 1
        have o2 := OB0.cell 2
        have o3 := OB0.cell 3
        have o4 := OB0.cell 4
        have o5 := OB0.cell 5
        have o6 := OB0.cell 6
        have o7 := OB0.cell 7
        have o8 := OB0.cell 8
        have o9 := OB0.cell 9
        simp only [List.getElem?_toArray, List.getElem?_cons_zero, List.getElem?_cons_succ] at o0 o1 o2 o3 o4 o5 o6 o7 o8 o9
        have e8 : (K0 : Int).tmod 8 = ((K0 % 8 : Nat) : Int) := by rw [Int.tmod_eq_emod_of_nonneg (by omega)]; omega
        have hW1s : W1.heap.size = wr.heap.size + 1 := by rw [← hW1]; exact World.size_alloc _ _
        clear hIA0 al OB0' hb1' hP1' hX1' hW1 X XB hat hx hxm hNM hTX hK hSP hP0 hX0
        have hq : K0 % 8 = 0 ∨ K0 % 8 = 1 ∨ K0 % 8 = 2 ∨ K0 % 8 = 3 ∨ K0 % 8 = 4 ∨ K0 % 8 = 5 ∨ K0 % 8 = 6 ∨ K0 % 8 = 7 := by omega
        rcases hq with hq | hq | hq | hq | hq | hq | hq | hq
        · rw [hq] at e8
          have hGd := Dom.good_make hGo.out y
          have hBd := (bnd_make hBn.out y (by omega)).wide (show j + 1 + 1 ≤ j + 1 + 1 by omega) (show 1000 * (j + 1) ≤ 1000 * (j + 1 + 1) by omega)
          have hRs := make_res t y
          have HMK1 := hid fun W S aa3 an3 ac3 ka3 kn3 kc3 hT hP hb hA hn => HC.out.make W w.heap.size R1 S t y aa3 an3 ac3 ka3 kn3 kc3 hT hP hGo.out hfit hb hA hn (by omega)
          have hatt : an ≤ 1000000000 := by have := hIA1'.1; have := Dom.sumA_len y.atts; unfold Dom.cost at hcost; omega
          have HMK2 := hid fun W S (hX : TreeX W w.heap.size R2 S t) hb hA => rmake_any W w.heap.size R2 S t hX hGo.out (by have := hfit.few; omega) hb y aa an ac ka kn kc hA hAN hatt
          obtain ⟨PT, hPT⟩ : ∃ PT, Dom.makeT t y = PT := ⟨_, rfl⟩
          rw [hPT] at hGd hBd hRs HMK1 HMK2
          obtain ⟨t2, res⟩ := PT
          simp only at hRs
          have HG2 := hid hGd
          have HN2 : Hid (Bnd t2 (j + 1 + 1) (1000 * (j + 1 + 1))) := hid hBd
          have hlenb := hBn.out.1
          obtain ⟨M', hM⟩ : ∃ M' : Nat, max (most : Int) res = (M' : Int) := ⟨(max (most : Int) res).toNat, by omega⟩
          have hM2 : M' ≤ 2 * (j + 1) := by omega
          have hMd : M' + 2 ≤ 1000 := by omega
          have hN2 := isN_one (w := W1) hIA1' hIK1' hAN hKN
          have hLN := lentD_any (d + 1) (fun _ => True) [y] (some ⟨W1.heap.size, 0, none⟩) 1 1 _ hN2 (by omega)
          have HSPO := hid fun lo hi a3 c3 W (hD : IsD (d + 1) W lo hi a3 1 [y]) => spoil_any (d + 1) lo hi [y] a3 1 c3 W hD (by omega)
          rw [HV.out.1, HV.out.2.1, HV.out.2.2.1, HV.out.2.2.2] at hLN
          rw [HV.out.1, HV.out.2.1, HV.out.2.2.1, HV.out.2.2.2] at HMK1 HMK2
          have al2 := (Below.refl W1.heap.size W1).alloc (Nat.le_refl _) (.cells #[.int .u8 K, .int .u8 SP, .string NM, .slice aa an ac, .string TX, .slice ka kn kc] 32)
          have P2 := HC.out.below hP1 al2
          have X2 := hX1.below al2
          have hb2 := hb1.trans (al2.mono hb1.size)
          have OB2' := OB0.alloc (.cells #[.int .u8 K, .int .u8 SP, .string NM, .slice aa an ac, .string TX, .slice ka kn kc] 32)
          obtain ⟨W2, hW2⟩ : ∃ W2, W1.alloc (.cells #[.int .u8 K, .int .u8 SP, .string NM, .slice aa an ac, .string TX, .slice ka kn kc] 32) = W2 := ⟨_, rfl⟩
          rw [hW2] at hLN P2 X2 hb2 OB2'
          rw [hW1s] at hLN
          have HW2 := hid hW2
          have hs2 : W2.heap.size = W1.heap.size + 1 := by rw [← hW2]; exact World.size_alloc _ _
          have HLN := hid hLN
          clear hIA1' hIK1' hfit hPT hGd hBd hRs hlenb hTW1 hb1 hP1 hX1 hTW1d hb1d hP1d hX1d OB0d hN2 hLN al2 hW2
          go_wp2_with fail
          rw [HW1.out, HW2.out]
          refine (HLN.out).mono ?_
          rintro e w3 ⟨⟨a3, c3, rfl, hD3, hn3⟩, b3⟩
          have HD3 := hid hD3
          obtain ⟨b3', aa3, an3, ac3, ka3, kn3, kc3, ha3, q0, q1, q2, q3, q4, q5, hA3, hn3'⟩ := hD3.one
          subst ha3
          rw [HV.out.2.2.1] at q0
          rw [HV.out.2.2.2] at q1
          rw [HV.out.1] at q2
          rw [HV.out.2.1] at q4
          have hb3 := hb2.trans (b3.mono hb2.size)
          have hT3 := HKE.out _ _ HT.out hb3
          have P3 := HC.out.below P2 b3
          have X3 := X2.below b3
          have OB3 := OB2'.below b3 OB2'.lt
          have hs3 := b3.size
          have o1Off : Off S1 W2.heap.size w3.heap.size := fun k hk q => by have := hS1 k hk; omega
          have o2Off : Off S2 W2.heap.size w3.heap.size := fun k hk q => by have := hS2 k hk; omega
          have HC1 := hid (HMK1.out w3 S1 aa3 an3 ac3 ka3 kn3 kc3 hT3 P3 hb3.size hA3 hn3')
          have HM1 := hid fun w5 (hT1 : TurnedP P w3 w5 w.heap.size R1 S1 t2) => (show Hid (MiddQ P w w5 R1 R2 t2 t S2 W2.heap.size w3.heap.size (d + 1) (some ⟨b3', 0, none⟩) 1 [y]) ∧ Hid (BlkW w5 wr.heap.size #[.int .u8 K0, .int .u8 K, .int .u8 SP, .string NM, .slice aa an ac, .string TX, .slice ka kn kc, .int .i64 A, .int .i64 B, .int .i64 C] 34) from ⟨hid (middq_mk HC.out hb3 P3 X3 hd HD3.out (Nat.le_refl _) o1Off hT1), hid (by obtain ⟨S1', _, g⟩ := hT1; exact g.blk OB3 hLB1)⟩)
          have HO2 := hid o2Off
          have hlo : w.heap.size ≤ W2.heap.size := hb2.size
          clear hD3 hn3 hA3 hn3' b3 hb3 hT3 P3 X3 OB3 o1Off o2Off P2 X2 hb2 OB2' hd hS1 hS2 hLB1
          go_wp2_with fail
          refine (HC1.out).mono ?_
          rintro e w5 ⟨rfl, hT1⟩
          have HH1 := HM1.out w5 hT1
          obtain ⟨HMI, OB1⟩ := HH1
          have o1' := OB1.out.cell 1
          have o2' := OB1.out.cell 2
          have o3' := OB1.out.cell 3
          have o4' := OB1.out.cell 4
          have o5' := OB1.out.cell 5
          have o6' := OB1.out.cell 6
          simp only [List.getElem?_toArray, List.getElem?_cons_zero, List.getElem?_cons_succ] at o1' o2' o3' o4' o5' o6'
          clear hT1
          go_wp2_with fail
          refine (HMK2.out w5 S2 HMI.out.2.1 HMI.out.1.size (HA0.out.below HMI.out.1)).mono ?_
          rintro e w6 ⟨rfl, hT2⟩
          have HBQ := hid (bothq_mk HC.out HMI.out HO2.out hT2)
          clear hT2
          go_wp2_with fail
          refine (HSPO.out W2.heap.size w3.heap.size _ c3 w6 HBQ.out.2.1).mono ?_
          rintro e w7 ⟨rfl, b7, k7⟩
          have HBO := hid (bothq_spoil HC.out HBQ.out hlo b7 k7)
          clear b7 k7
          obtain ⟨hb0, S1', S2', hP', hX', hd'⟩ := HBO.out
          have ST := hid (stands_any HC.out HKE.out _ w.heap.size R1 R2 S1' S2' t2 (M' + 2) (HKE.out _ _ HT.out hb0) hP' hX' HG2.out (HN2.out.fit (by omega) (by omega)) (by omega))
          clear hb0 hP' hX' hd'
          go_wp2_with fail
          refine (ST.out).mono ?_
          rintro e w9 ⟨rfl, b9⟩
          have HB9 := hid (Both.below HC.out HBO.out b9)
          clear b9
          go_wp2
          go_roundg (n - (j + 1))
          case measure => omega
          case rel => exact ⟨j + 1, M', t2, by omega, by go_num, by go_num, by omega, HB9, HG2, HN2⟩
        · rw [hq] at e8
          have hGd := Dom.good_make hGo.out y
          have hBd := (bnd_make hBn.out y (by omega)).wide (show j + 1 + 1 ≤ j + 1 + 1 by omega) (show 1000 * (j + 1) ≤ 1000 * (j + 1 + 1) by omega)
          have hRs := make_res t y
          have HMK1 := hid fun W S aa3 an3 ac3 ka3 kn3 kc3 hT hP hb hA hn => HC.out.make W w.heap.size R1 S t y aa3 an3 ac3 ka3 kn3 kc3 hT hP hGo.out hfit hb hA hn (by omega)
          have hatt : an ≤ 1000000000 := by have := hIA1'.1; have := Dom.sumA_len y.atts; unfold Dom.cost at hcost; omega
          have HMK2 := hid fun W S (hX : TreeX W w.heap.size R2 S t) hb hA => rmake_any W w.heap.size R2 S t hX hGo.out (by have := hfit.few; omega) hb y aa an ac ka kn kc hA hAN hatt
          obtain ⟨PT, hPT⟩ : ∃ PT, Dom.makeT t y = PT := ⟨_, rfl⟩
          rw [hPT] at hGd hBd hRs HMK1 HMK2
          obtain ⟨t2, res⟩ := PT
          simp only at hRs
          have HG2 := hid hGd
          have HN2 : Hid (Bnd t2 (j + 1 + 1) (1000 * (j + 1 + 1))) := hid hBd
          have hlenb := hBn.out.1
          obtain ⟨M', hM⟩ : ∃ M' : Nat, max (most : Int) res = (M' : Int) := ⟨(max (most : Int) res).toNat, by omega⟩
          have hM2 : M' ≤ 2 * (j + 1) := by omega
          have hMd : M' + 2 ≤ 1000 := by omega
          have hN2 := isN_one (w := W1) hIA1' hIK1' hAN hKN
          have hLN := lentD_any (d + 1) (fun _ => True) [y] (some ⟨W1.heap.size, 0, none⟩) 1 1 _ hN2 (by omega)
          have HSPO := hid fun lo hi a3 c3 W (hD : IsD (d + 1) W lo hi a3 1 [y]) => spoil_any (d + 1) lo hi [y] a3 1 c3 W hD (by omega)
          rw [HV.out.1, HV.out.2.1, HV.out.2.2.1, HV.out.2.2.2] at hLN
          rw [HV.out.1, HV.out.2.1, HV.out.2.2.1, HV.out.2.2.2] at HMK1 HMK2
          have al2 := (Below.refl W1.heap.size W1).alloc (Nat.le_refl _) (.cells #[.int .u8 K, .int .u8 SP, .string NM, .slice aa an ac, .string TX, .slice ka kn kc] 32)
          have P2 := HC.out.below hP1 al2
          have X2 := hX1.below al2
          have hb2 := hb1.trans (al2.mono hb1.size)
          have OB2' := OB0.alloc (.cells #[.int .u8 K, .int .u8 SP, .string NM, .slice aa an ac, .string TX, .slice ka kn kc] 32)
          obtain ⟨W2, hW2⟩ : ∃ W2, W1.alloc (.cells #[.int .u8 K, .int .u8 SP, .string NM, .slice aa an ac, .string TX, .slice ka kn kc] 32) = W2 := ⟨_, rfl⟩
          rw [hW2] at hLN P2 X2 hb2 OB2'
          rw [hW1s] at hLN
          have HW2 := hid hW2
          have hs2 : W2.heap.size = W1.heap.size + 1 := by rw [← hW2]; exact World.size_alloc _ _
          have HLN := hid hLN
          clear hIA1' hIK1' hfit hPT hGd hBd hRs hlenb hTW1 hb1 hP1 hX1 hTW1d hb1d hP1d hX1d OB0d hN2 hLN al2 hW2
          go_wp2_with fail
          rw [HW1.out, HW2.out]
          refine (HLN.out).mono ?_
          rintro e w3 ⟨⟨a3, c3, rfl, hD3, hn3⟩, b3⟩
          have HD3 := hid hD3
          obtain ⟨b3', aa3, an3, ac3, ka3, kn3, kc3, ha3, q0, q1, q2, q3, q4, q5, hA3, hn3'⟩ := hD3.one
          subst ha3
          rw [HV.out.2.2.1] at q0
          rw [HV.out.2.2.2] at q1
          rw [HV.out.1] at q2
          rw [HV.out.2.1] at q4
          have hb3 := hb2.trans (b3.mono hb2.size)
          have hT3 := HKE.out _ _ HT.out hb3
          have P3 := HC.out.below P2 b3
          have X3 := X2.below b3
          have OB3 := OB2'.below b3 OB2'.lt
          have hs3 := b3.size
          have o1Off : Off S1 W2.heap.size w3.heap.size := fun k hk q => by have := hS1 k hk; omega
          have o2Off : Off S2 W2.heap.size w3.heap.size := fun k hk q => by have := hS2 k hk; omega
          have HC1 := hid (HMK1.out w3 S1 aa3 an3 ac3 ka3 kn3 kc3 hT3 P3 hb3.size hA3 hn3')
          have HM1 := hid fun w5 (hT1 : TurnedP P w3 w5 w.heap.size R1 S1 t2) => (show Hid (MiddQ P w w5 R1 R2 t2 t S2 W2.heap.size w3.heap.size (d + 1) (some ⟨b3', 0, none⟩) 1 [y]) ∧ Hid (BlkW w5 wr.heap.size #[.int .u8 K0, .int .u8 K, .int .u8 SP, .string NM, .slice aa an ac, .string TX, .slice ka kn kc, .int .i64 A, .int .i64 B, .int .i64 C] 34) from ⟨hid (middq_mk HC.out hb3 P3 X3 hd HD3.out (Nat.le_refl _) o1Off hT1), hid (by obtain ⟨S1', _, g⟩ := hT1; exact g.blk OB3 hLB1)⟩)
          have HO2 := hid o2Off
          have hlo : w.heap.size ≤ W2.heap.size := hb2.size
          clear hD3 hn3 hA3 hn3' b3 hb3 hT3 P3 X3 OB3 o1Off o2Off P2 X2 hb2 OB2' hd hS1 hS2 hLB1
          go_wp2_with fail
          refine (HC1.out).mono ?_
          rintro e w5 ⟨rfl, hT1⟩
          have HH1 := HM1.out w5 hT1
          obtain ⟨HMI, OB1⟩ := HH1
          have o1' := OB1.out.cell 1
          have o2' := OB1.out.cell 2
          have o3' := OB1.out.cell 3
          have o4' := OB1.out.cell 4
          have o5' := OB1.out.cell 5
          have o6' := OB1.out.cell 6
          simp only [List.getElem?_toArray, List.getElem?_cons_zero, List.getElem?_cons_succ] at o1' o2' o3' o4' o5' o6'
          clear hT1
          go_wp2_with fail
          refine (HMK2.out w5 S2 HMI.out.2.1 HMI.out.1.size (HA0.out.below HMI.out.1)).mono ?_
          rintro e w6 ⟨rfl, hT2⟩
          have HBQ := hid (bothq_mk HC.out HMI.out HO2.out hT2)
          clear hT2
          go_wp2_with fail
          refine (HSPO.out W2.heap.size w3.heap.size _ c3 w6 HBQ.out.2.1).mono ?_
          rintro e w7 ⟨rfl, b7, k7⟩
          have HBO := hid (bothq_spoil HC.out HBQ.out hlo b7 k7)
          clear b7 k7
          obtain ⟨hb0, S1', S2', hP', hX', hd'⟩ := HBO.out
          have ST := hid (stands_any HC.out HKE.out _ w.heap.size R1 R2 S1' S2' t2 (M' + 2) (HKE.out _ _ HT.out hb0) hP' hX' HG2.out (HN2.out.fit (by omega) (by omega)) (by omega))
          clear hb0 hP' hX' hd'
          go_wp2_with fail
          refine (ST.out).mono ?_
          rintro e w9 ⟨rfl, b9⟩
          have HB9 := hid (Both.below HC.out HBO.out b9)
          clear b9
          go_wp2
          go_roundg (n - (j + 1))
          case measure => omega
          case rel => exact ⟨j + 1, M', t2, by omega, by go_num, by go_num, by omega, HB9, HG2, HN2⟩
        · rw [hq] at e8
          obtain ⟨PT, hPT⟩ : ∃ PT, Dom.copyT t A = PT := ⟨_, rfl⟩
          have hGd := Dom.good_copy hGo.out A
          have hBd := (bnd_copy hBn.out A).wide (show j + 1 + 1 ≤ j + 1 + 1 by omega) (show 1000 * (j + 1) ≤ 1000 * (j + 1 + 1) by omega)
          have HC1 := hid (HC.out.copy W1 w.heap.size R1 S1 t A hTW1 hP1 hGo.out hfit hb1.size)
          have HC2 := hid fun W (hX : TreeX W w.heap.size R2 S2 t) (hb : w.heap.size ≤ W.heap.size) => rcopy_any W w.heap.size R2 S2 t A hX hGo.out (by omega) hb (fun i => by have := hfit.atts i; omega)
          rw [hPT] at hGd hBd HC1 HC2
          obtain ⟨t2, res⟩ := PT
          have hPT0 := hPT
          have hRs := make_res_copy t A
          rw [hPT0] at hRs
          simp only at hRs
          have hlenb := hBn.out.1
          obtain ⟨M', hM⟩ : ∃ M' : Nat, max (most : Int) res = (M' : Int) := ⟨(max (most : Int) res).toNat, by omega⟩
          have hM2 : M' ≤ 2 * (j + 1) := by omega
          have hMd : M' + 2 ≤ 1000 := by omega
          clear hRs hlenb hPT0
          have HG2 := hid hGd
          have HN2 : Hid (Bnd t2 (j + 1 + 1) (1000 * (j + 1 + 1))) := hid hBd
          have HM1 := hid fun w5 (hT1 : TurnedP P W1 w5 w.heap.size R1 S1 t2) => (show Hid (Midd P w w5 R1 R2 t2 t S2) ∧ Hid (BlkW w5 wr.heap.size #[.int .u8 K0, .int .u8 K, .int .u8 SP, .string NM, .slice aa an ac, .string TX, .slice ka kn kc, .int .i64 A, .int .i64 B, .int .i64 C] 34) from ⟨hid (midd_mk HC.out hb1 hP1 hX1 hd hT1), hid (by obtain ⟨S1', _, g⟩ := hT1; exact g.blk OB0 hLB1)⟩)
          have Q0 := hid (blk_q OB0d)
          have QZ := hid (blk_q OB0)
          clear hIA1' hIK1' hfit hPT hGd hBd hTW1 hb1 hP1 hX1 hTW1d hb1d hP1d hX1d OB0d hd hS1 hS2 hLB1
          go_wp2_with fail
          rw [HW1.out]
          refine (HC1.out).mono ?_
          rintro e w5 ⟨rfl, hT1⟩
          have HH1 := HM1.out w5 hT1
          obtain ⟨HMI, OB1⟩ := HH1
          have o1' := OB1.out.cell 1
          have o2' := OB1.out.cell 2
          have o3' := OB1.out.cell 3
          have o4' := OB1.out.cell 4
          have o5' := OB1.out.cell 5
          have o6' := OB1.out.cell 6
          have o7' := OB1.out.cell 7
          simp only [List.getElem?_toArray, List.getElem?_cons_zero, List.getElem?_cons_succ] at o1' o2' o3' o4' o5' o6' o7'
          clear hT1
          go_wp2_with fail
          refine (HC2.out _ HMI.out.2.1 HMI.out.1.size).mono ?_
          rintro e w6 ⟨rfl, hT2⟩
          have HBO := hid (both_mk HC.out HMI.out hT2)
          clear hT2
          obtain ⟨hb0, S1', S2', hP', hX', hd'⟩ := HBO.out
          have ST := hid (stands_any HC.out HKE.out _ w.heap.size R1 R2 S1' S2' t2 (M' + 2) (HKE.out _ _ HT.out hb0) hP' hX' HG2.out (HN2.out.fit (by omega) (by omega)) (by omega))
          clear hb0 hP' hX' hd'
          go_wp2_with fail
          refine (ST.out).mono ?_
          rintro e w9 ⟨rfl, b9⟩
          have HB9 := hid (Both.below HC.out HBO.out b9)
          clear b9
          go_wp2
          go_roundg (n - (j + 1))
          case measure => omega
          case rel => exact ⟨j + 1, M', t2, by omega, by go_num, by go_num, by omega, HB9, HG2, HN2⟩
        · rw [hq] at e8
          obtain ⟨PT, hPT⟩ : ∃ PT, Dom.putT t A B C = PT := ⟨_, rfl⟩
          have hGd := Dom.good_put hGo.out A B C
          have hBd := (hBn.out.same (sameNd_put t A B C)).wide (show j + 1 ≤ j + 1 + 1 by omega) (show 1000 * (j + 1) ≤ 1000 * (j + 1 + 1) by omega)
          have HC1 := hid (HC.out.put W1.drew w.heap.size R1 S1 t A B C hTW1d hP1d hGo.out hfit hb1d.size)
          have HC2 := hid fun W (hX : TreeX W w.heap.size R2 S2 t) (hb : w.heap.size ≤ W.heap.size) => rput_any W w.heap.size R2 S2 t A B C hX hGo.out (by omega) hb
          rw [hPT] at hGd hBd HC1 HC2
          obtain ⟨t2, res⟩ := PT
          have HG2 := hid hGd
          have HN2 : Hid (Bnd t2 (j + 1 + 1) (1000 * (j + 1 + 1))) := hid hBd
          have HM1 := hid fun w5 (hT1 : TurnedP P W1.drew w5 w.heap.size R1 S1 t2) => (show Hid (Midd P w w5 R1 R2 t2 t S2) ∧ Hid (BlkW w5 wr.heap.size #[.int .u8 K0, .int .u8 K, .int .u8 SP, .string NM, .slice aa an ac, .string TX, .slice ka kn kc, .int .i64 A, .int .i64 B, .int .i64 C] 34) from ⟨hid (midd_mk HC.out hb1d hP1d hX1d hd hT1), hid (by obtain ⟨S1', _, g⟩ := hT1; exact g.blk OB0d hLB1)⟩)
          have Q0 := hid (blk_q OB0d)
          have QZ := hid (blk_q OB0)
          clear hIA1' hIK1' hfit hPT hGd hBd hTW1 hb1 hP1 hX1 hTW1d hb1d hP1d hX1d OB0d hd hS1 hS2 hLB1
          go_wp2_with fail
          rw [HW1.out]
          go_region_held3 (fun w' => w'.cell? ⟨wr.heap.size, 5, none⟩ = some (.string TX) ∧ w'.cell? ⟨wr.heap.size, 7, none⟩ = some (.int .i64 A) ∧ w'.cell? ⟨wr.heap.size, 8, none⟩ = some (.int .i64 B) ∧ w'.cell? ⟨wr.heap.size, 9, none⟩ = some (.int .i64 C)) (first | exact Q2.out | exact Q1.out | exact Q0.out | exact QZ.out)
            (first
              | (go_at_call 17; (with_reducible refine (HC1.out).mono ?_); rintro e w5 ⟨rfl, hT1⟩; have HH1 := HM1.out w5 hT1; obtain ⟨HMI, OB1⟩ := HH1; have Q1 := hid (blk_q OB1.out); clear hT1)
              | (go_at_call 18; (refine (HC2.out _ HMI.out.2.1 HMI.out.1.size).mono ?_); rintro e w6 ⟨rfl, hT2⟩; have HBO := hid (both_mk HC.out HMI.out hT2); have Q2 := hid (blk_q (turned_blk hT2 OB1.out hLB2)); clear hT2))
          all_goals skip
          all_goals
            obtain ⟨hb0, S1', S2', hP', hX', hd'⟩ := HBO.out
            have ST := hid (stands_any HC.out HKE.out _ w.heap.size R1 R2 S1' S2' t2 (most + 2) (HKE.out _ _ HT.out hb0) hP' hX' HG2.out (HN2.out.fit (by omega) (by omega)) (by omega))
            clear hb0 hP' hX' hd'
            go_wp2_with fail
            refine (ST.out).mono ?_
            rintro e w9 ⟨rfl, b9⟩
            have HB9 := hid (Both.below HC.out HBO.out b9)
            clear b9
            go_wp2
            go_roundg (n - (j + 1))
            case measure => omega
            case rel => exact ⟨j + 1, most, t2, by omega, by go_num, by go_num, by omega, HB9, HG2, HN2⟩
        · rw [hq] at e8
          obtain ⟨PT, hPT⟩ : ∃ PT, Dom.putT t A B C = PT := ⟨_, rfl⟩
          have hGd := Dom.good_put hGo.out A B C
          have hBd := (hBn.out.same (sameNd_put t A B C)).wide (show j + 1 ≤ j + 1 + 1 by omega) (show 1000 * (j + 1) ≤ 1000 * (j + 1 + 1) by omega)
          have HC1 := hid (HC.out.put W1.drew w.heap.size R1 S1 t A B C hTW1d hP1d hGo.out hfit hb1d.size)
          have HC2 := hid fun W (hX : TreeX W w.heap.size R2 S2 t) (hb : w.heap.size ≤ W.heap.size) => rput_any W w.heap.size R2 S2 t A B C hX hGo.out (by omega) hb
          rw [hPT] at hGd hBd HC1 HC2
          obtain ⟨t2, res⟩ := PT
          have HG2 := hid hGd
          have HN2 : Hid (Bnd t2 (j + 1 + 1) (1000 * (j + 1 + 1))) := hid hBd
          have HM1 := hid fun w5 (hT1 : TurnedP P W1.drew w5 w.heap.size R1 S1 t2) => (show Hid (Midd P w w5 R1 R2 t2 t S2) ∧ Hid (BlkW w5 wr.heap.size #[.int .u8 K0, .int .u8 K, .int .u8 SP, .string NM, .slice aa an ac, .string TX, .slice ka kn kc, .int .i64 A, .int .i64 B, .int .i64 C] 34) from ⟨hid (midd_mk HC.out hb1d hP1d hX1d hd hT1), hid (by obtain ⟨S1', _, g⟩ := hT1; exact g.blk OB0d hLB1)⟩)
          have Q0 := hid (blk_q OB0d)
          have QZ := hid (blk_q OB0)
          clear hIA1' hIK1' hfit hPT hGd hBd hTW1 hb1 hP1 hX1 hTW1d hb1d hP1d hX1d OB0d hd hS1 hS2 hLB1
          go_wp2_with fail
          rw [HW1.out]
          go_region_held3 (fun w' => w'.cell? ⟨wr.heap.size, 5, none⟩ = some (.string TX) ∧ w'.cell? ⟨wr.heap.size, 7, none⟩ = some (.int .i64 A) ∧ w'.cell? ⟨wr.heap.size, 8, none⟩ = some (.int .i64 B) ∧ w'.cell? ⟨wr.heap.size, 9, none⟩ = some (.int .i64 C)) (first | exact Q2.out | exact Q1.out | exact Q0.out | exact QZ.out)
            (first
              | (go_at_call 17; (with_reducible refine (HC1.out).mono ?_); rintro e w5 ⟨rfl, hT1⟩; have HH1 := HM1.out w5 hT1; obtain ⟨HMI, OB1⟩ := HH1; have Q1 := hid (blk_q OB1.out); clear hT1)
              | (go_at_call 18; (refine (HC2.out _ HMI.out.2.1 HMI.out.1.size).mono ?_); rintro e w6 ⟨rfl, hT2⟩; have HBO := hid (both_mk HC.out HMI.out hT2); have Q2 := hid (blk_q (turned_blk hT2 OB1.out hLB2)); clear hT2))
          all_goals skip
          all_goals
            obtain ⟨hb0, S1', S2', hP', hX', hd'⟩ := HBO.out
            have ST := hid (stands_any HC.out HKE.out _ w.heap.size R1 R2 S1' S2' t2 (most + 2) (HKE.out _ _ HT.out hb0) hP' hX' HG2.out (HN2.out.fit (by omega) (by omega)) (by omega))
            clear hb0 hP' hX' hd'
            go_wp2_with fail
            refine (ST.out).mono ?_
            rintro e w9 ⟨rfl, b9⟩
            have HB9 := hid (Both.below HC.out HBO.out b9)
            clear b9
            go_wp2
            go_roundg (n - (j + 1))
            case measure => omega
            case rel => exact ⟨j + 1, most, t2, by omega, by go_num, by go_num, by omega, HB9, HG2, HN2⟩
        · rw [hq] at e8
          obtain ⟨PT, hPT⟩ : ∃ PT, Dom.cutT t A = PT := ⟨_, rfl⟩
          have hGd := Dom.good_cut hGo.out A
          have hBd := (hBn.out.same (sameNd_cut t A)).wide (show j + 1 ≤ j + 1 + 1 by omega) (show 1000 * (j + 1) ≤ 1000 * (j + 1 + 1) by omega)
          have HC1 := hid (HC.out.cut W1.drew w.heap.size R1 S1 t A hTW1d hP1d hGo.out hfit hb1d.size)
          have HC2 := hid fun W (hX : TreeX W w.heap.size R2 S2 t) (hb : w.heap.size ≤ W.heap.size) => rcut_any W w.heap.size R2 S2 t A hX hGo.out (by omega) hb
          rw [hPT] at hGd hBd HC1 HC2
          obtain ⟨t2, res⟩ := PT
          have HG2 := hid hGd
          have HN2 : Hid (Bnd t2 (j + 1 + 1) (1000 * (j + 1 + 1))) := hid hBd
          have HM1 := hid fun w5 (hT1 : TurnedP P W1.drew w5 w.heap.size R1 S1 t2) => (show Hid (Midd P w w5 R1 R2 t2 t S2) ∧ Hid (BlkW w5 wr.heap.size #[.int .u8 K0, .int .u8 K, .int .u8 SP, .string NM, .slice aa an ac, .string TX, .slice ka kn kc, .int .i64 A, .int .i64 B, .int .i64 C] 34) from ⟨hid (midd_mk HC.out hb1d hP1d hX1d hd hT1), hid (by obtain ⟨S1', _, g⟩ := hT1; exact g.blk OB0d hLB1)⟩)
          have Q0 := hid (blk_q OB0d)
          have QZ := hid (blk_q OB0)
          clear hIA1' hIK1' hfit hPT hGd hBd hTW1 hb1 hP1 hX1 hTW1d hb1d hP1d hX1d OB0d hd hS1 hS2 hLB1
          go_wp2_with fail
          rw [HW1.out]
          go_region_held3 (fun w' => w'.cell? ⟨wr.heap.size, 5, none⟩ = some (.string TX) ∧ w'.cell? ⟨wr.heap.size, 7, none⟩ = some (.int .i64 A) ∧ w'.cell? ⟨wr.heap.size, 8, none⟩ = some (.int .i64 B) ∧ w'.cell? ⟨wr.heap.size, 9, none⟩ = some (.int .i64 C)) (first | exact Q2.out | exact Q1.out | exact Q0.out | exact QZ.out)
            (first
              | (go_at_call 19; (with_reducible refine (HC1.out).mono ?_); rintro e w5 ⟨rfl, hT1⟩; have HH1 := HM1.out w5 hT1; obtain ⟨HMI, OB1⟩ := HH1; have Q1 := hid (blk_q OB1.out); clear hT1)
              | (go_at_call 20; (refine (HC2.out _ HMI.out.2.1 HMI.out.1.size).mono ?_); rintro e w6 ⟨rfl, hT2⟩; have HBO := hid (both_mk HC.out HMI.out hT2); have Q2 := hid (blk_q (turned_blk hT2 OB1.out hLB2)); clear hT2))
          all_goals skip
          all_goals
            obtain ⟨hb0, S1', S2', hP', hX', hd'⟩ := HBO.out
            have ST := hid (stands_any HC.out HKE.out _ w.heap.size R1 R2 S1' S2' t2 (most + 2) (HKE.out _ _ HT.out hb0) hP' hX' HG2.out (HN2.out.fit (by omega) (by omega)) (by omega))
            clear hb0 hP' hX' hd'
            go_wp2_with fail
            refine (ST.out).mono ?_
            rintro e w9 ⟨rfl, b9⟩
            have HB9 := hid (Both.below HC.out HBO.out b9)
            clear b9
            go_wp2
            go_roundg (n - (j + 1))
            case measure => omega
            case rel => exact ⟨j + 1, most, t2, by omega, by go_num, by go_num, by omega, HB9, HG2, HN2⟩
        · rw [hq] at e8
          obtain ⟨PT, hPT⟩ : ∃ PT, Dom.moveT t A B = PT := ⟨_, rfl⟩
          have hGd := Dom.good_move hGo.out A B
          have hBd := (hBn.out.same (sameNd_move t A B)).wide (show j + 1 ≤ j + 1 + 1 by omega) (show 1000 * (j + 1) ≤ 1000 * (j + 1 + 1) by omega)
          have HC1 := hid (HC.out.move W1.drew w.heap.size R1 S1 t A B hTW1d hP1d hGo.out hfit hb1d.size)
          have HC2 := hid fun W (hX : TreeX W w.heap.size R2 S2 t) (hb : w.heap.size ≤ W.heap.size) => rmove_any W w.heap.size R2 S2 t A B hX hGo.out (by omega) hb
          rw [hPT] at hGd hBd HC1 HC2
          obtain ⟨t2, res⟩ := PT
          have HG2 := hid hGd
          have HN2 : Hid (Bnd t2 (j + 1 + 1) (1000 * (j + 1 + 1))) := hid hBd
          have HM1 := hid fun w5 (hT1 : TurnedP P W1.drew w5 w.heap.size R1 S1 t2) => (show Hid (Midd P w w5 R1 R2 t2 t S2) ∧ Hid (BlkW w5 wr.heap.size #[.int .u8 K0, .int .u8 K, .int .u8 SP, .string NM, .slice aa an ac, .string TX, .slice ka kn kc, .int .i64 A, .int .i64 B, .int .i64 C] 34) from ⟨hid (midd_mk HC.out hb1d hP1d hX1d hd hT1), hid (by obtain ⟨S1', _, g⟩ := hT1; exact g.blk OB0d hLB1)⟩)
          have Q0 := hid (blk_q OB0d)
          have QZ := hid (blk_q OB0)
          clear hIA1' hIK1' hfit hPT hGd hBd hTW1 hb1 hP1 hX1 hTW1d hb1d hP1d hX1d OB0d hd hS1 hS2 hLB1
          go_wp2_with fail
          rw [HW1.out]
          go_region_held3 (fun w' => w'.cell? ⟨wr.heap.size, 5, none⟩ = some (.string TX) ∧ w'.cell? ⟨wr.heap.size, 7, none⟩ = some (.int .i64 A) ∧ w'.cell? ⟨wr.heap.size, 8, none⟩ = some (.int .i64 B) ∧ w'.cell? ⟨wr.heap.size, 9, none⟩ = some (.int .i64 C)) (first | exact Q2.out | exact Q1.out | exact Q0.out | exact QZ.out)
            (first
              | (go_at_call 21; (with_reducible refine (HC1.out).mono ?_); rintro e w5 ⟨rfl, hT1⟩; have HH1 := HM1.out w5 hT1; obtain ⟨HMI, OB1⟩ := HH1; have Q1 := hid (blk_q OB1.out); clear hT1)
              | (go_at_call 22; (refine (HC2.out _ HMI.out.2.1 HMI.out.1.size).mono ?_); rintro e w6 ⟨rfl, hT2⟩; have HBO := hid (both_mk HC.out HMI.out hT2); have Q2 := hid (blk_q (turned_blk hT2 OB1.out hLB2)); clear hT2))
          all_goals skip
          all_goals
            obtain ⟨hb0, S1', S2', hP', hX', hd'⟩ := HBO.out
            have ST := hid (stands_any HC.out HKE.out _ w.heap.size R1 R2 S1' S2' t2 (most + 2) (HKE.out _ _ HT.out hb0) hP' hX' HG2.out (HN2.out.fit (by omega) (by omega)) (by omega))
            clear hb0 hP' hX' hd'
            go_wp2_with fail
            refine (ST.out).mono ?_
            rintro e w9 ⟨rfl, b9⟩
            have HB9 := hid (Both.below HC.out HBO.out b9)
            clear b9
            go_wp2
            go_roundg (n - (j + 1))
            case measure => omega
            case rel => exact ⟨j + 1, most, t2, by omega, by go_num, by go_num, by omega, HB9, HG2, HN2⟩
        · rw [hq] at e8
          obtain ⟨PT, hPT⟩ : ∃ PT, Dom.writeT t A B y.text = PT := ⟨_, rfl⟩
          have hGd := Dom.good_write hGo.out A B y.text
          have hBd := (bnd_write hBn.out (by omega) A B y.text 600 htl).wide (show j + 1 + 1 ≤ j + 1 + 1 by omega) (show 1000 * (j + 1) + (1 + 600) ≤ 1000 * (j + 1 + 1) by omega)
          have HC1 := hid (HC.out.write W1.drew w.heap.size R1 S1 t A B y.text hTW1d hP1d hGo.out hfit hb1d.size (by omega))
          have HC2 := hid fun W (hX : TreeX W w.heap.size R2 S2 t) (hb : w.heap.size ≤ W.heap.size) => rwrite_any W w.heap.size R2 S2 t A B y.text hX hGo.out hfitR hb (fun i => by have := hfit.text i; omega) (by omega)
          rw [hPT] at hGd hBd HC1 HC2
          rw [HV.out.2.1] at HC1 HC2
          obtain ⟨t2, res⟩ := PT
          have HG2 := hid hGd
          have HN2 : Hid (Bnd t2 (j + 1 + 1) (1000 * (j + 1 + 1))) := hid hBd
          have HM1 := hid fun w5 (hT1 : TurnedP P W1.drew w5 w.heap.size R1 S1 t2) => (show Hid (Midd P w w5 R1 R2 t2 t S2) ∧ Hid (BlkW w5 wr.heap.size #[.int .u8 K0, .int .u8 K, .int .u8 SP, .string NM, .slice aa an ac, .string TX, .slice ka kn kc, .int .i64 A, .int .i64 B, .int .i64 C] 34) from ⟨hid (midd_mk HC.out hb1d hP1d hX1d hd hT1), hid (by obtain ⟨S1', _, g⟩ := hT1; exact g.blk OB0d hLB1)⟩)
          have Q0 := hid (blk_q OB0d)
          have QZ := hid (blk_q OB0)
          clear hIA1' hIK1' hfit hPT hGd hBd hTW1 hb1 hP1 hX1 hTW1d hb1d hP1d hX1d OB0d hd hS1 hS2 hLB1
          go_wp2_with fail
          rw [HW1.out]
          go_region_held3 (fun w' => w'.cell? ⟨wr.heap.size, 5, none⟩ = some (.string TX) ∧ w'.cell? ⟨wr.heap.size, 7, none⟩ = some (.int .i64 A) ∧ w'.cell? ⟨wr.heap.size, 8, none⟩ = some (.int .i64 B) ∧ w'.cell? ⟨wr.heap.size, 9, none⟩ = some (.int .i64 C)) (first | exact Q2.out | exact Q1.out | exact Q0.out | exact QZ.out)
            (first
              | (go_at_call 23; (with_reducible refine (HC1.out).mono ?_); rintro e w5 ⟨rfl, hT1⟩; have HH1 := HM1.out w5 hT1; obtain ⟨HMI, OB1⟩ := HH1; have Q1 := hid (blk_q OB1.out); clear hT1)
              | (go_at_call 24; (refine (HC2.out _ HMI.out.2.1 HMI.out.1.size).mono ?_); rintro e w6 ⟨rfl, hT2⟩; have HBO := hid (both_mk HC.out HMI.out hT2); have Q2 := hid (blk_q (turned_blk hT2 OB1.out hLB2)); clear hT2))
          all_goals skip
          all_goals
            obtain ⟨hb0, S1', S2', hP', hX', hd'⟩ := HBO.out
            have ST := hid (stands_any HC.out HKE.out _ w.heap.size R1 R2 S1' S2' t2 ((most + 1) + 2) (HKE.out _ _ HT.out hb0) hP' hX' HG2.out (HN2.out.fit (by omega) (by omega)) (by omega))
            clear hb0 hP' hX' hd'
            go_wp2_with fail
            refine (ST.out).mono ?_
            rintro e w9 ⟨rfl, b9⟩
            have HB9 := hid (Both.below HC.out HBO.out b9)
            clear b9
            go_wp2
            go_roundg (n - (j + 1))
            case measure => omega
            case rel => exact ⟨j + 1, (most + 1), t2, by omega, by go_num, by go_num, by omega, HB9, HG2, HN2⟩
      · have d1 : decide (j < n) = false := decide_eq_false hlt
        have hltI : ¬ (j : Int) < (n : Int) := by omega
        have hbE := hBo.out.1
        clear hBo hGo hBn
        go_wp2
        go_ret
        exact ⟨rfl, hbE⟩
end Go.Proofs.Ythbklcpjbeelhaa
