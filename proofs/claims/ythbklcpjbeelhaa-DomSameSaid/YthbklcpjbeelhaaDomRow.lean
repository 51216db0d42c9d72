/- Walks over the reference of layer 10: Same. Written by tools/gen_refdoms.py. Walks: the reference's Print; the statement DomSame over what the program's Same and Print are known to tell. -/
import Derived.Test.YthbklcpjbeelhaaRefDomS
import Derived.Test.YthbklcpjbeelhaaNodeWt
import Derived.Test.YthbklcpjbeelhaaNodeLent
import Derived.Test.YthbklcpjbeelhaaNodeSame
import Derived.Test.YthbklcpjbeelhaaRefDomP
import Derived.Test.YthbklcpjbeelhaaNodeLend
namespace Go.Proofs.Ythbklcpjbeelhaa
open Go.RowKit Go.Lib
set_option maxRecDepth 100000
set_option linter.unusedVariables false

set_option maxHeartbeats 8000000 in
theorem rsame_succ (d : Nat) (IH : RSameC d) : RSameC (d + 1) := by
  intro S1 S2 ns ms a1 n1 c1 a2 n2 c2 w h g hw1 hw2
  have hl1 := h.len
  have hl2 := g.len
  have hn := Dom.sumW_len d ns
  obtain ⟨z, hz⟩ : ∃ z, Dom.sameB (d + 1) ns ms = z := ⟨_, rfl⟩
  rw [hz]
  by_cases hne : n1 = n2
  · subst hne
    have d0 : ((n1 : Int) != (n1 : Int)) = false := by simp
    have hn1 : n1 ≤ 1000000000 := by omega
    have HH := hid h
    have HG := hid g
    have HIH := hid IH
    have HW1 := hid hw1
    have HW2 := hid hw2
    have HL1 := hid hl1
    have HL2 := hid hl2
    have H0 : Hid (Dom.allB (Dom.oneB (Dom.sameB d)) (ns.drop 0) (ms.drop 0) = z) := hid hz
    clear h g IH hw1 hw2 hl1 hl2 hn hz
    go_enter Try.func28, Try.ntmps28
    go_wp2
    go_loopg [5] n1 (fun g iv wr => ∃ k : Nat, k + g = n1 ∧ iv = .int .i64 k ∧ Hid (Dom.allB (Dom.oneB (Dom.sameB d)) (ns.drop k) (ms.drop k) = z) ∧ Hid (Below w.heap.size w wr))
    case atStart => exact ⟨0, by omega, rfl, H0, hid (Below.refl _ _)⟩
    case round =>
      obtain ⟨k, hk, rfl, hI, hB⟩ := hrel
      by_cases hlt : k < n1
      · have d1 : decide (k < n1) = true := decide_eq_true hlt
        have hltI : (k : Int) < (n1 : Int) := by omega
        have hk1 : k < ns.length := by have := HL1.out; omega
        have hk2 : k < ms.length := by have := HL2.out; omega
        obtain ⟨x, hx⟩ : ∃ x, ns[k]? = some x := ⟨_, List.getElem?_eq_getElem hk1⟩
        obtain ⟨y, hy⟩ : ∃ y, ms[k]? = some y := ⟨_, List.getElem?_eq_getElem hk2⟩
        have hzz : z = (Dom.oneB (Dom.sameB d) x y && Dom.allB (Dom.oneB (Dom.sameB d)) (ns.drop (k + 1)) (ms.drop (k + 1))) := by
          have h := hI.out
          have e1 : ns[k] = x := by rw [List.getElem?_eq_getElem hk1] at hx; exact Option.some.inj hx
          have e2 : ms[k] = y := by rw [List.getElem?_eq_getElem hk2] at hy; exact Option.some.inj hy
          rw [List.drop_eq_getElem_cons hk1, List.drop_eq_getElem_cons hk2, e1, e2] at h
          exact h.symm
        have HZ := hid hzz
        have wx := Dom.sumW_mem (d := d) (List.mem_of_getElem? hx)
        have wy := Dom.sumW_mem (d := d) (List.mem_of_getElem? hy)
        have ax := Dom.sumA_len x.atts
        have ay := Dom.sumA_len y.atts
        have w1' := HW1.out
        have w2' := HW2.out
        obtain ⟨b1, o1, rfl, _, hat⟩ := (HH.out.below hB.out).at (by omega)
        obtain ⟨b2, o2, rfl, _, hau⟩ := (HG.out.below hB.out).at (by omega)
        obtain ⟨aa1, an1, ac1, ka1, kn1, kc1, X⟩ := hat k x hx
        obtain ⟨aa2, an2, ac2, ka2, kn2, kc2, Y⟩ := hau k y hy
        have lx := X.atts.1
        have ly := Y.atts.1
        have SO := fun W (hW : Below wr.heap.size wr W) => one_any d HIH.out S1 S2 x y aa1 an1 ac1 ka1 kn1 kc1 aa2 an2 ac2 ka2 kn2 kc2 W (X.atts.below hW) (Y.atts.below hW) (by omega) (by omega) (X.kids.below hW) (Y.kids.below hW) (by omega) (by omega)
        obtain ⟨v, hv⟩ : ∃ v, Dom.oneB (Dom.sameB d) x y = v := ⟨_, rfl⟩
        rw [hv] at SO hzz
        have HZV := hid hzz
        have SO := hid SO
        have x10 := X.c0
        have x11 := X.c1
        have x12 := X.c2
        have x13 := X.c3
        have x14 := X.c4
        have x15 := X.c5
        have x20 := Y.c0
        have x21 := Y.c1
        have x22 := Y.c2
        have x23 := Y.c3
        have x24 := Y.c4
        have x25 := Y.c5
        clear hat hau X Y hx hy hk1 hk2 wx wy ax ay w1' w2' lx ly hI hzz hv HZ
        unfold nodeV at SO
        generalize bs x.name = NM1 at *
        generalize bs x.text = TX1 at *
        generalize x.kind = K1 at *
        generalize x.space = SP1 at *
        generalize bs y.name = NM2 at *
        generalize bs y.text = TX2 at *
        generalize y.kind = K2 at *
        generalize y.space = SP2 at *
        have c10 : ∀ W, Below wr.heap.size wr W → W.cell? ⟨b1, o1 + k * 6, none⟩ = some (.int .u8 K1) := fun W hW => cell_up x10 hW
        have c11 : ∀ W, Below wr.heap.size wr W → W.cell? ⟨b1, o1 + k * 6 + 1, none⟩ = some (.int .u8 SP1) := fun W hW => cell_up x11 hW
        have c12 : ∀ W, Below wr.heap.size wr W → W.cell? ⟨b1, o1 + k * 6 + 2, none⟩ = some (.string NM1) := fun W hW => cell_up x12 hW
        have c13 : ∀ W, Below wr.heap.size wr W → W.cell? ⟨b1, o1 + k * 6 + 3, none⟩ = some (.slice aa1 an1 ac1) := fun W hW => cell_up x13 hW
        have c14 : ∀ W, Below wr.heap.size wr W → W.cell? ⟨b1, o1 + k * 6 + 4, none⟩ = some (.string TX1) := fun W hW => cell_up x14 hW
        have c15 : ∀ W, Below wr.heap.size wr W → W.cell? ⟨b1, o1 + k * 6 + 5, none⟩ = some (.slice ka1 kn1 kc1) := fun W hW => cell_up x15 hW
        have c20 : ∀ W, Below wr.heap.size wr W → W.cell? ⟨b2, o2 + k * 6, none⟩ = some (.int .u8 K2) := fun W hW => cell_up x20 hW
        have c21 : ∀ W, Below wr.heap.size wr W → W.cell? ⟨b2, o2 + k * 6 + 1, none⟩ = some (.int .u8 SP2) := fun W hW => cell_up x21 hW
        have c22 : ∀ W, Below wr.heap.size wr W → W.cell? ⟨b2, o2 + k * 6 + 2, none⟩ = some (.string NM2) := fun W hW => cell_up x22 hW
        have c23 : ∀ W, Below wr.heap.size wr W → W.cell? ⟨b2, o2 + k * 6 + 3, none⟩ = some (.slice aa2 an2 ac2) := fun W hW => cell_up x23 hW
        have c24 : ∀ W, Below wr.heap.size wr W → W.cell? ⟨b2, o2 + k * 6 + 4, none⟩ = some (.string TX2) := fun W hW => cell_up x24 hW
        have c25 : ∀ W, Below wr.heap.size wr W → W.cell? ⟨b2, o2 + k * 6 + 5, none⟩ = some (.slice ka2 kn2 kc2) := fun W hW => cell_up x25 hW
        have e0 : Below wr.heap.size wr wr := Below.refl _ _
        clear x10 x11 x12 x13 x14 x15 x20 x21 x22 x23 x24 x25
        go_wp2
        go_region_held3 (fun w' => w'.cell? ⟨b1, o1 + k * 6, none⟩ = some (.int .u8 K1) ∧ w'.cell? ⟨b1, o1 + k * 6 + 1, none⟩ = some (.int .u8 SP1) ∧ w'.cell? ⟨b1, o1 + k * 6 + 2, none⟩ = some (.string NM1) ∧ w'.cell? ⟨b1, o1 + k * 6 + 3, none⟩ = some (.slice aa1 an1 ac1) ∧ w'.cell? ⟨b1, o1 + k * 6 + 4, none⟩ = some (.string TX1) ∧ w'.cell? ⟨b1, o1 + k * 6 + 5, none⟩ = some (.slice ka1 kn1 kc1) ∧ w'.cell? ⟨b2, o2 + k * 6, none⟩ = some (.int .u8 K2) ∧ w'.cell? ⟨b2, o2 + k * 6 + 1, none⟩ = some (.int .u8 SP2) ∧ w'.cell? ⟨b2, o2 + k * 6 + 2, none⟩ = some (.string NM2) ∧ w'.cell? ⟨b2, o2 + k * 6 + 3, none⟩ = some (.slice aa2 an2 ac2) ∧ w'.cell? ⟨b2, o2 + k * 6 + 4, none⟩ = some (.string TX2) ∧ w'.cell? ⟨b2, o2 + k * 6 + 5, none⟩ = some (.slice ka2 kn2 kc2) ∧ Below wr.heap.size wr w')
          (first | exact ⟨c10 _ e1, c11 _ e1, c12 _ e1, c13 _ e1, c14 _ e1, c15 _ e1, c20 _ e1, c21 _ e1, c22 _ e1, c23 _ e1, c24 _ e1, c25 _ e1, e1⟩ | exact ⟨c10 _ e0.drew, c11 _ e0.drew, c12 _ e0.drew, c13 _ e0.drew, c14 _ e0.drew, c15 _ e0.drew, c20 _ e0.drew, c21 _ e0.drew, c22 _ e0.drew, c23 _ e0.drew, c24 _ e0.drew, c25 _ e0.drew, e0.drew⟩ | exact ⟨c10 _ e0, c11 _ e0, c12 _ e0, c13 _ e0, c14 _ e0, c15 _ e0, c20 _ e0, c21 _ e0, c22 _ e0, c23 _ e0, c24 _ e0, c25 _ e0, e0⟩)
          (first
            | (go_at_call 57; with_reducible refine (SO.out _ e0.drew).mono ?_; rintro e' w3 ⟨rfl, b3⟩; have e1 := e0.drew.trans (b3.mono e0.drew.size)))
        have HBn := hid (hB.out.trans (e1.mono hB.out.size))
        clear c10 c11 c12 c13 c14 c15 c20 c21 c22 c23 c24 c25 e0 e1 b3
        cases v with
        | true =>
          have HN : Hid (Dom.allB (Dom.oneB (Dom.sameB d)) (ns.drop (k + 1)) (ms.drop (k + 1)) = z) := hid (by rw [HZV.out, Bool.true_and])
          go_wp2
          go_roundg (n1 - (k + 1))
          case measure => omega
          case rel => exact ⟨k + 1, by omega, by go_num, HN, HBn⟩
        | false =>
          have HR := hid (show z = false by rw [HZV.out, Bool.false_and])
          go_wp2
          go_ret
          exact ⟨by rw [HR.out]; first | done | rfl, HBn.out⟩
      · have d1 : decide (k < n1) = false := decide_eq_false hlt
        have hltI : ¬ (k : Int) < (n1 : Int) := by omega
        have HR := hid (show z = true by
          have h := hI.out
          rw [List.drop_of_length_le (by have := HL1.out; omega), List.drop_of_length_le (by have := HL2.out; omega)] at h
          exact h.symm)
        clear hI
        go_wp2
        go_ret
        exact ⟨by rw [HR.out]; first | done | rfl, hB.out⟩
  · have d0 : ((n1 : Int) != (n2 : Int)) = true := by simp; omega
    have HR := hid (show z = false by
      rw [← hz]
      cases hc : Dom.sameB (d + 1) ns ms with
      | false => rfl
      | true => exact absurd (by rw [← hl1, ← hl2]; exact Dom.allB_len hc) hne)
    clear h g IH hw1 hw2 hl1 hl2 hn hz
    go_enter Try.func28, Try.ntmps28
    go_wp2
    go_ret
    exact ⟨by rw [HR.out]; first | done | rfl, Below.refl _ _⟩
set_option maxHeartbeats 8000000 in
theorem rsame_zero : RSameC 0 := by
  intro S1 S2 ns ms a1 n1 c1 a2 n2 c2 w h g hw1 hw2
  obtain ⟨rfl, rfl⟩ := h
  obtain ⟨rfl, rfl⟩ := g
  have hR : Dom.sameB 0 [] [] = true := rfl
  rw [hR]
  clear hw1 hw2 hR
  go_enter Try.func28, Try.ntmps28
  go_wp2
  go_loopg [5] 0 (fun g iv wr => iv = .int .i64 0 ∧ wr = w)
  case atStart => exact ⟨rfl, rfl⟩
  case round =>
    obtain ⟨rfl, rfl⟩ := hrel
    go_wp2
    go_ret
    exact ⟨rfl, Below.refl _ _⟩
theorem rsame_any : ∀ d, RSameC d
  | 0 => rsame_zero
  | d + 1 => rsame_succ d (rsame_any d)
end Go.Proofs.Ythbklcpjbeelhaa
namespace Go.Proofs.Ythbklcpjbeelhaa
open Go.RowKit Go.Lib
set_option maxRecDepth 100000
set_option linter.unusedVariables false

theorem rprint_any (d : Nat) (S : Nat → Prop) (ns : List Dom.N) (a : Option Addr) (n c : Nat) (w : World) (h : IsN S d w a n ns) (hw : Dom.sumW d ns ≤ 100000) :
    Calls Try.prog 30 #[.slice a n c] w fun e w' => e = .returned (.string (bs (Dom.linesP d ns []))) ∧ Below w.heap.size w w' := by
  have H := hid (rlines_any d S ns a n c [] w h hw (by show 0 + 2 * _ ≤ _; omega))
  clear h hw
  go_enter Try.func30, Try.ntmps30
  go_wp2_with fail
  refine (H.out).mono ?_
  rintro e w1 ⟨rfl, b1⟩
  go_wp2
  go_ret
  exact ⟨rfl, b1⟩
/-- What the program's Print is known to tell of nodes of which Q holds. -/
def DomPrintQ (EW : World → Prop) (Q : Nat → List Dom.N → Prop) : Prop := ∀ (d : Nat) (S : Nat → Prop) (ns : List Dom.N) (a : Option Addr) (n c : Nat) (w : World), EW w → IsN S d w a n ns → Q d ns → Dom.sumW d ns ≤ 100000 →
  Calls Try.prog 29 #[.slice a n c] w fun e w' => e = .returned (.string (bs (Dom.linesP d ns []))) ∧ Below w.heap.size w w'
set_option maxHeartbeats 8000000 in
theorem dsame_any {EW : World → Prop} {Q : Nat → List Dom.N → Prop} (HS : DomSameC EW) (HP : DomPrintQ EW Q) (HK : DomKnownC EW) (HB : KeepsW EW) (d : Nat) (S1 S2 : Nat → Prop) (ns ms : List Dom.N) (a1 : Option Addr) (n1 c1 : Nat) (a2 : Option Addr) (n2 c2 : Nat) (w : World) (hT : EW w)
    (h : IsN S1 d w a1 n1 ns) (g : IsN S2 d w a2 n2 ms) (ho : Dom.okL 9223372036854775807 d ns) (go : Dom.okL 9223372036854775807 d ms) (hn : n1 ≤ 9223372036854775807) (gn : n2 ≤ 9223372036854775807) (hq : Q d ns) :
    Calls Try.prog 4 #[.slice a1 n1 c1, .slice a2 n2 c2] w fun e w' => e = .returned (.bool true) ∧ Below w.heap.size w w' := by
  have HH := hid h
  have HG := hid g
  have HT := hid hT
  have HBB := hid HB
  have W1 := hid (weigh_any d S1 ns a1 n1 c1 0 600 w h ho hn (by omega))
  have W2 := hid fun (W : World) (hb : Below w.heap.size w W) => weigh_any d S2 ms a2 n2 c2 0 600 W (g.below hb) go gn (by omega)
  have L1 := hid fun (W : World) (hb : Below w.heap.size w W) (hw : Dom.sumW d ns ≤ 900000000) => lentN_any d S1 ns a1 n1 c1 W (h.below hb) hw
  have L2 := hid fun (W : World) (hb : Below w.heap.size w W) (hw : Dom.sumW d ms ≤ 900000000) => lentN_any d S2 ms a2 n2 c2 W (g.below hb) hw
  have HSS := hid HS
  have HPP := hid HP
  have HKK := hid HK
  have s1 := Dom.wtL_sum 600 d 0 ns
  have s2 := Dom.wtL_sum 600 d 0 ms
  obtain ⟨A1, hA1⟩ : ∃ A1, Dom.wtL 600 d 0 ns = A1 := ⟨_, rfl⟩
  obtain ⟨A2, hA2⟩ : ∃ A2, Dom.wtL 600 d 0 ms = A2 := ⟨_, rfl⟩
  rw [hA1] at W1 s1
  rw [hA2] at W2 s2
  clear h g ho go hn gn HS HP HK HB hT hA1 hA2
  by_cases v1 : 600 < A1
  · have d1 : decide ((600 : Int) < (A1 : Int)) = true := by simp; omega
    go_enter Try.func4, Try.ntmps4
    go_wp2_with fail
    refine (W1.out).mono ?_
    rintro e w1 ⟨rfl, b1⟩
    go_wp2
    go_ret
    exact ⟨rfl, b1⟩
  have d1 : decide ((600 : Int) < (A1 : Int)) = false := by simp; omega
  by_cases v2 : 600 < A2
  · have d2 : decide ((600 : Int) < (A2 : Int)) = true := by simp; omega
    go_enter Try.func4, Try.ntmps4
    go_wp2_with fail
    refine (W1.out).mono ?_
    rintro e w1 ⟨rfl, b1⟩
    have B1 := hid b1
    clear b1
    go_wp2_with fail
    refine (W2.out _ B1.out).mono ?_
    rintro e w2 ⟨rfl, b2⟩
    have B2 := hid (B1.out.trans (b2.mono B1.out.size))
    clear b2 B1
    go_wp2
    go_ret
    exact ⟨rfl, B2.out⟩
  have d2 : decide ((600 : Int) < (A2 : Int)) = false := by simp; omega
  have t1 : Dom.sumW d ns ≤ 600 := by have := s1 (by omega); omega
  have t2 : Dom.sumW d ms ≤ 600 := by have := s2 (by omega); omega
  clear s1 s2
  go_enter Try.func4, Try.ntmps4
  go_wp2_with fail
  refine (W1.out).mono ?_
  rintro e w1 ⟨rfl, b1⟩
  have B1 := hid b1
  clear b1
  go_wp2_with fail
  refine (W2.out _ B1.out).mono ?_
  rintro e w2 ⟨rfl, b2⟩
  have B2 := hid (B1.out.trans (b2.mono B1.out.size))
  clear b2 B1
  go_wp2_with fail
  refine (L1.out _ B2.out (by omega)).mono ?_
  rintro e w3 ⟨⟨a3, c3, rfl, X3, k3⟩, b3⟩
  have B3 := hid (B2.out.trans (b3.mono B2.out.size))
  have X3 := hid X3
  clear b3 B2 k3
  go_wp2_with fail
  refine (L2.out _ B3.out (by omega)).mono ?_
  rintro e w4 ⟨⟨a4, c4, rfl, Y4, k4⟩, b4⟩
  have B4 := hid (B3.out.trans (b4.mono B3.out.size))
  have X4 := hid (X3.out.below b4)
  have Y4 := hid Y4
  clear b4 B3 k4 X3
  have HG4 := hid (HG.out.below B4.out)
  have HH4 := hid (HH.out.below B4.out)
  have T4 := hid (HBB.out _ _ HT.out B4.out)
  obtain ⟨E1, hE1⟩ : ∃ E1, Dom.sameB d ns ms = E1 := ⟨_, rfl⟩
  obtain ⟨E2, hE2⟩ : ∃ E2, Dom.sameB d ms ns = E2 := ⟨_, rfl⟩
  obtain ⟨Z, hZ⟩ : ∃ Z, bs (Dom.linesP d ns []) = Z := ⟨_, rfl⟩
  have F1 := hid fun W (hb : Below w4.heap.size w4 W) => HSS.out d _ _ ns ms a3 n1 c3 a4 n2 c4 W (HBB.out _ _ T4.out hb) (X4.out.below hb) (Y4.out.below hb) (by omega) (by omega)
  have F2 := hid fun W (hb : Below w4.heap.size w4 W) => HSS.out d _ _ ms ns a4 n2 c4 a3 n1 c3 W (HBB.out _ _ T4.out hb) (Y4.out.below hb) (X4.out.below hb) (by omega) (by omega)
  have F3 := hid fun W (hb : Below w4.heap.size w4 W) => HSS.out d _ _ ns ns a3 n1 c3 a3 n1 c3 W (HBB.out _ _ T4.out hb) (X4.out.below hb) (X4.out.below hb) (by omega) (by omega)
  have R1 := hid fun W (hb : Below w4.heap.size w4 W) => rsame_any d _ _ ns ms a1 n1 c1 a2 n2 c2 W (HH4.out.below hb) (HG4.out.below hb) (by omega) (by omega)
  have R2 := hid fun W (hb : Below w4.heap.size w4 W) => rsame_any d _ _ ms ns a2 n2 c2 a1 n1 c1 W (HG4.out.below hb) (HH4.out.below hb) (by omega) (by omega)
  have P1 := hid fun W (hb : Below w4.heap.size w4 W) => HPP.out d _ ns a3 n1 c3 W (HBB.out _ _ T4.out hb) (X4.out.below hb) hq (by omega)
  have P2 := hid fun W (hb : Below w4.heap.size w4 W) => rprint_any d _ ns a1 n1 c1 W (HH4.out.below hb) (by omega)
  have N1 := hid fun W (hb : Below w4.heap.size w4 W) => sameN_any d _ _ ns a3 n1 c3 a1 c1 W (X4.out.below hb) (HH4.out.below hb) (by omega)
  have N2 := hid fun W (hb : Below w4.heap.size w4 W) => sameN_any d _ _ ms a4 n2 c4 a2 c2 W (Y4.out.below hb) (HG4.out.below hb) (by omega)
  have K1 := hid fun W (hb : Below w4.heap.size w4 W) => HKK.out W (HBB.out _ _ T4.out hb)
  rw [hE1] at F1 R1
  rw [hE2] at F2 R2
  rw [hZ] at P1 P2
  rw [Dom.sameB_refl] at F3
  have e1 : (E1 == E1) = true := by simp
  have e2 : (E2 == E2) = true := by simp
  clear hE1 hE2 hZ HH HG HT W1 W2 L1 L2 HSS HPP HKK HG4 HH4 T4 HBB X4 Y4
  go_wp2_with fail
  refine (F1.out _ (Below.refl _ _)).mono ?_
  rintro e w5 ⟨rfl, C⟩
  have C := hid C
  go_wp2_with fail
  refine (R1.out _ C.out).mono ?_
  rintro e w6 ⟨rfl, b⟩
  have C6 := hid (C.out.trans (b.mono C.out.size))
  clear b C
  go_wp2_with fail
  refine (F2.out _ C6.out).mono ?_
  rintro e w7 ⟨rfl, b⟩
  have C7 := hid (C6.out.trans (b.mono C6.out.size))
  clear b C6
  go_wp2_with fail
  refine (R2.out _ C7.out).mono ?_
  rintro e w8 ⟨rfl, b⟩
  have C8 := hid (C7.out.trans (b.mono C7.out.size))
  clear b C7
  go_wp2_with fail
  refine (F3.out _ C8.out).mono ?_
  rintro e w9 ⟨rfl, b⟩
  have C9 := hid (C8.out.trans (b.mono C8.out.size))
  clear b C8
  go_wp2_with fail
  refine (K1.out _ C9.out).mono ?_
  rintro e w10 ⟨rfl, b⟩
  have C10 := hid (C9.out.trans (b.mono C9.out.size))
  clear b C9
  go_wp2_with fail
  refine (P1.out _ C10.out).mono ?_
  rintro e w11 ⟨rfl, b⟩
  have C11 := hid (C10.out.trans (b.mono C10.out.size))
  clear b C10
  go_wp2_with fail
  refine (P2.out _ C11.out).mono ?_
  rintro e w12 ⟨rfl, b⟩
  have C12 := hid (C11.out.trans (b.mono C11.out.size))
  clear b C11
  go_wp2_with fail
  refine (N1.out _ C12.out).mono ?_
  rintro e w13 ⟨rfl, b⟩
  have C13 := hid (C12.out.trans (b.mono C12.out.size))
  clear b C12
  go_wp2_with fail
  refine (N2.out _ C13.out).mono ?_
  rintro e w14 ⟨rfl, b⟩
  have C14 := hid (C13.out.trans (b.mono C13.out.size))
  clear b C13
  go_wp2
  go_ret
  exact ⟨rfl, B4.out.trans (C14.out.mono B4.out.size)⟩
end Go.Proofs.Ythbklcpjbeelhaa
