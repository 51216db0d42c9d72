/- Walks over the program's package dom: Same. Written by tools/gen_domsame2.py. -/
import Derived.Test.YthbklcpjbeelhaaSameK
namespace Go.Proofs.Ythbklcpjbeelhaa
open Go.RowKit Go.Lib
set_option maxRecDepth 100000
set_option linter.unusedVariables false

set_option maxHeartbeats 8000000 in
theorem eqF_any (d : Nat) (IH : PSameC d) (S1 S2 : Nat → Prop) (ns ms : List Dom.N) (a1 : Option Addr) (n1 c1 : Nat) (a2 : Option Addr) (n2 c2 : Nat) (w : World) (h : IsN S1 (d + 1) w a1 n1 ns) (g : IsN S2 (d + 1) w a2 n2 ms) (hw1 : Dom.sumW (d + 1) ns ≤ 1000000000) (hw2 : Dom.sumW (d + 1) ms ≤ 1000000000) :
    Calls Try.prog 55 #[.slice a1 n1 c1, .slice a2 n2 c2, .func (.func 56) #[] #[]] w fun e w' => e = .returned (.bool (Dom.sameB (d + 1) ns ms)) ∧ Below w.heap.size w w' := by
  have hl1 := h.len
  have hl2 := g.len
  have hn := Dom.sumW_len d ns
  obtain ⟨z, hz⟩ : ∃ z, Dom.sameB (d + 1) ns ms = z := ⟨_, rfl⟩
  rw [hz]
  by_cases hne : n1 = n2
  · subst hne
    have d0 : ((n1 : Int) != (n1 : Int)) = false := by simp
    have hn1 : n1 ≤ 1000000000 := by omega
    have HH := hid h
    have HG := hid g
    have HIH := hid IH
    have HW1 := hid hw1
    have HW2 := hid hw2
    have HL1 := hid hl1
    have HL2 := hid hl2
    have H0 : Hid (Dom.allB (Dom.oneB (Dom.sameB d)) (ns.drop 0) (ms.drop 0) = z) := hid hz
    clear h g IH hw1 hw2 hl1 hl2 hn hz
    go_enter Try.func55, Try.ntmps55
    go_wp2
    go_loopg [17] n1 (fun g iv wr => ∃ k : Nat, k + g = n1 ∧ iv = .int .i64 k ∧ Hid (Dom.allB (Dom.oneB (Dom.sameB d)) (ns.drop k) (ms.drop k) = z) ∧ Hid (Below w.heap.size w wr))
    case atStart => exact ⟨0, by omega, rfl, H0, hid (Below.refl _ _)⟩
    case round =>
      obtain ⟨k, hk, rfl, hI, hB⟩ := hrel
      by_cases hlt : k < n1
      · have d1 : decide (k < n1) = true := decide_eq_true hlt
        have hltI : (k : Int) < (n1 : Int) := by omega
        have hk1 : k < ns.length := by have := HL1.out; omega
        have hk2 : k < ms.length := by have := HL2.out; omega
        obtain ⟨x, hx⟩ : ∃ x, ns[k]? = some x := ⟨_, List.getElem?_eq_getElem hk1⟩
        obtain ⟨y, hy⟩ : ∃ y, ms[k]? = some y := ⟨_, List.getElem?_eq_getElem hk2⟩
        have hzz : z = (Dom.oneB (Dom.sameB d) x y && Dom.allB (Dom.oneB (Dom.sameB d)) (ns.drop (k + 1)) (ms.drop (k + 1))) := by
          have h := hI.out
          have e1 : ns[k] = x := by rw [List.getElem?_eq_getElem hk1] at hx; exact Option.some.inj hx
          have e2 : ms[k] = y := by rw [List.getElem?_eq_getElem hk2] at hy; exact Option.some.inj hy
          rw [List.drop_eq_getElem_cons hk1, List.drop_eq_getElem_cons hk2, e1, e2] at h
          exact h.symm
        have wx := Dom.sumW_mem (d := d) (List.mem_of_getElem? hx)
        have wy := Dom.sumW_mem (d := d) (List.mem_of_getElem? hy)
        have ax := Dom.sumA_len x.atts
        have ay := Dom.sumA_len y.atts
        have w1' := HW1.out
        have w2' := HW2.out
        obtain ⟨b1, o1, rfl, _, hat⟩ := (HH.out.below hB.out).at (by omega)
        obtain ⟨b2, o2, rfl, _, hau⟩ := (HG.out.below hB.out).at (by omega)
        obtain ⟨aa1, an1, ac1, ka1, kn1, kc1, X⟩ := hat k x hx
        obtain ⟨aa2, an2, ac2, ka2, kn2, kc2, Y⟩ := hau k y hy
        have lx := X.atts.1
        have ly := Y.atts.1
        have SO := fun W (hW : Below wr.heap.size wr W) => al_any d HIH.out S1 S2 x y aa1 an1 ac1 ka1 kn1 kc1 aa2 an2 ac2 ka2 kn2 kc2 W (X.atts.below hW) (Y.atts.below hW) (by omega) (by omega) (X.kids.below hW) (Y.kids.below hW) (by omega) (by omega)
        obtain ⟨v, hv⟩ : ∃ v, Dom.oneB (Dom.sameB d) x y = v := ⟨_, rfl⟩
        rw [hv] at SO hzz
        have HZV := hid hzz
        have x10 := X.c0
        have x11 := X.c1
        have x12 := X.c2
        have x13 := X.c3
        have x14 := X.c4
        have x15 := X.c5
        have x20 := Y.c0
        have x21 := Y.c1
        have x22 := Y.c2
        have x23 := Y.c3
        have x24 := Y.c4
        have x25 := Y.c5
        clear hat hau X Y hx hy hk1 hk2 wx wy ax ay w1' w2' lx ly hI hzz hv
        unfold nodeV at SO
        generalize bs x.name = NM1 at *
        generalize bs x.text = TX1 at *
        generalize x.kind = K1 at *
        generalize x.space = SP1 at *
        generalize bs y.name = NM2 at *
        generalize bs y.text = TX2 at *
        generalize y.kind = K2 at *
        generalize y.space = SP2 at *
        have b0 : Below wr.heap.size wr (wr.alloc (.cells #[.int .u8 K1, .int .u8 SP1, .string NM1, .slice aa1 an1 ac1, .string TX1, .slice ka1 kn1 kc1] 32)) := (Below.refl _ wr).alloc (Nat.le_refl _) _
        have b1' := b0.alloc b0.size (.cells #[.int .u8 K2, .int .u8 SP2, .string NM2, .slice aa2 an2 ac2, .string TX2, .slice ka2 kn2 kc2] 32)
        have y20 := cell_up x20 b0
        have y21 := cell_up x21 b0
        have y22 := cell_up x22 b0
        have y23 := cell_up x23 b0
        have y24 := cell_up x24 b0
        have y25 := cell_up x25 b0
        have HSO := hid (SO _ b1')
        have HB1 := hid b1'
        clear SO b0 b1' x20 x21 x22 x23 x24 x25
        go_wp2_with fail
        refine (HSO.out).mono ?_
        rintro e' w3 ⟨rfl, b3⟩
        have HBn := hid (hB.out.trans ((HB1.out.trans (b3.mono HB1.out.size)).mono hB.out.size))
        clear b3
        cases v with
        | true =>
          have HN : Hid (Dom.allB (Dom.oneB (Dom.sameB d)) (ns.drop (k + 1)) (ms.drop (k + 1)) = z) := hid (by rw [HZV.out, Bool.true_and])
          go_wp2
          go_roundg (n1 - (k + 1))
          case measure => omega
          case rel => exact ⟨k + 1, by omega, by go_num, HN, HBn⟩
        | false =>
          have HR := hid (show z = false by rw [HZV.out, Bool.false_and])
          go_wp2
          go_ret
          exact ⟨by rw [HR.out]; first | done | rfl, HBn.out⟩
      · have d1 : decide (k < n1) = false := decide_eq_false hlt
        have hltI : ¬ (k : Int) < (n1 : Int) := by omega
        have HR := hid (show z = true by
          have h := hI.out
          rw [List.drop_of_length_le (by have := HL1.out; omega), List.drop_of_length_le (by have := HL2.out; omega)] at h
          exact h.symm)
        clear hI
        go_wp2
        go_ret
        exact ⟨by rw [HR.out]; first | done | rfl, hB.out⟩
  · have d0 : ((n1 : Int) != (n2 : Int)) = true := by simp; omega
    have HR := hid (show z = false by
      rw [← hz]
      cases hc : Dom.sameB (d + 1) ns ms with
      | false => rfl
      | true => exact absurd (by rw [← hl1, ← hl2]; exact Dom.allB_len hc) hne)
    clear h g IH hw1 hw2 hl1 hl2 hn hz
    go_enter Try.func55, Try.ntmps55
    go_wp2
    go_ret
    exact ⟨by rw [HR.out]; first | done | rfl, Below.refl _ _⟩
set_option maxHeartbeats 4000000 in
theorem psame_succ (d : Nat) (IH : PSameC d) : PSameC (d + 1) := by
  intro S1 S2 ns ms a1 n1 c1 a2 n2 c2 w h g hw1 hw2
  have H := hid (eqF_any d IH S1 S2 ns ms a1 n1 c1 a2 n2 c2 w h g hw1 hw2)
  generalize Dom.sameB (d + 1) ns ms = z at *
  clear IH h g hw1 hw2
  go_enter Try.func27, Try.ntmps27
  go_wp2_with fail
  refine (H.out).mono ?_
  rintro e w2 ⟨rfl, b2⟩
  go_wp2
  go_ret
  exact ⟨rfl, b2⟩
set_option maxHeartbeats 4000000 in
theorem eqF_zero (a1 : Option Addr) (c1 : Nat) (a2 : Option Addr) (c2 : Nat) (w : World) :
    Calls Try.prog 55 #[.slice a1 0 c1, .slice a2 0 c2, .func (.func 56) #[] #[]] w fun e w' => e = .returned (.bool true) ∧ Below w.heap.size w w' := by
  go_enter Try.func55, Try.ntmps55
  go_wp2
  go_loopg [17] 0 (fun g iv wr => iv = .int .i64 0 ∧ wr = w)
  case atStart => exact ⟨rfl, rfl⟩
  case round =>
    obtain ⟨rfl, rfl⟩ := hrel
    go_wp2
    go_ret
    exact ⟨rfl, Below.refl _ _⟩
set_option maxHeartbeats 4000000 in
theorem psame_zero : PSameC 0 := by
  intro S1 S2 ns ms a1 n1 c1 a2 n2 c2 w h g hw1 hw2
  obtain ⟨rfl, rfl⟩ := h
  obtain ⟨rfl, rfl⟩ := g
  have hR : Dom.sameB 0 [] [] = true := rfl
  rw [hR]
  have H := hid (eqF_zero a1 c1 a2 c2 w)
  clear hw1 hw2 hR
  go_enter Try.func27, Try.ntmps27
  go_wp2_with fail
  refine (H.out).mono ?_
  rintro e w2 ⟨rfl, b2⟩
  go_wp2
  go_ret
  exact ⟨rfl, b2⟩
theorem psame_any : ∀ d, PSameC d
  | 0 => psame_zero
  | d + 1 => psame_succ d (psame_any d)
end Go.Proofs.Ythbklcpjbeelhaa
