/- Walks over the program's package dom: when lists of attributes are the same. Written by tools/gen_domsame.py. Walks over the program's package dom: when two nodes are alike. Written by tools/gen_domsame.py. -/
import Derived.Test.YthbklcpjbeelhaaRefDomS
import Derived.Deep.LoopGhost
namespace Go.Proofs.Ythbklcpjbeelhaa
open Go.RowKit Go.Lib
set_option maxRecDepth 100000
set_option linter.unusedVariables false

set_option maxHeartbeats 4000000 in
theorem eqA_any (a1 : Option Addr) (n1 c1 : Nat) (a2 : Option Addr) (n2 c2 : Nat) (l1 l2 : List (List UInt8 × List UInt8)) (w : World) (h1 : IsA w a1 n1 l1) (h2 : IsA w a2 n2 l2) (hn1 : n1 ≤ 4000000000) (hn2 : n2 ≤ 4000000000) :
    Calls Try.prog 66 #[.slice a1 n1 c1, .slice a2 n2 c2] w fun e w' => e = .returned (.bool (decide (l1 = l2))) ∧ Below w.heap.size w w' := by
  have hl1 := h1.1
  have hl2 := h2.1
  obtain ⟨z, hz⟩ : ∃ z, decide (l1 = l2) = z := ⟨_, rfl⟩
  rw [hz]
  by_cases hne : n1 = n2
  · subst hne
    have d0 : ((n1 : Int) != (n1 : Int)) = false := by simp
    have HH := hid h1
    have HG := hid h2
    have HL1 := hid hl1
    have HL2 := hid hl2
    have HZ := hid hz
    clear h1 h2 hl1 hl2 hz
    go_enter Try.func66, Try.ntmps66
    go_wp2
    go_loopg [13] n1 (fun g iv wr => ∃ k : Nat, k + g = n1 ∧ iv = .int .i64 k ∧ Hid (l1.take k = l2.take k) ∧ Below w.heap.size w wr)
    case atStart => exact ⟨0, by omega, rfl, hid rfl, Below.refl _ _⟩
    case round =>
      obtain ⟨k, hk, rfl, hI, hb⟩ := hrel
      by_cases hlt : k < n1
      · have d1 : decide (k < n1) = true := decide_eq_true hlt
        have hltI : (k : Int) < (n1 : Int) := by omega
        obtain ⟨_, z0 | ⟨b1, o1, rfl, hat⟩⟩ := HH.out.below hb
        · omega
        obtain ⟨_, z0 | ⟨b2, o2, rfl, hau⟩⟩ := HG.out.below hb
        · omega
        obtain ⟨⟨p, q⟩, hx⟩ : ∃ u, l1[k]? = some u := ⟨_, List.getElem?_eq_getElem (by have := HL1.out; omega)⟩
        obtain ⟨⟨p', q'⟩, hy⟩ : ∃ u, l2[k]? = some u := ⟨_, List.getElem?_eq_getElem (by have := HL2.out; omega)⟩
        obtain ⟨e4, e5⟩ := hat k _ hx
        obtain ⟨f4, f5⟩ := hau k _ hy
        simp only at e4 e5 f4 f5
        by_cases he : p = p'
        · by_cases hf : q = q'
          · have HN := hid (take_more hI.out hx (by rw [he, hf]; exact hy))
            rw [← he] at f4
            rw [← hf] at f5
            generalize bs p = X at *
            generalize bs q = Y at *
            clear he hf hx hy hat hau hI
            go_wp2
            go_region
            go_wp2
            go_roundg (n1 - (k + 1))
            case measure => omega
            case rel => exact ⟨k + 1, by omega, by go_num, HN, bel_drewN hb 1⟩
          · have HR := hid (show z = false by rw [← HZ.out, decide_eq_false (get_ne hx hy fun e => hf (congrArg Prod.snd e))])
            have g0 : ¬ (bs q).toList = (bs q').toList := fun e => hf (bs_inj e)
            rw [← he] at f4
            generalize bs p = X at *
            generalize bs q = Y at *
            generalize bs q' = Y' at *
            clear he hf hx hy hat hau hI
            go_wp2
            go_region
            go_wp2
            go_ret
            exact ⟨ret_bool' HR.out.symm, bel_drewN hb 1⟩
        · have HR := hid (show z = false by rw [← HZ.out, decide_eq_false (get_ne hx hy fun e => he (congrArg Prod.fst e))])
          have g0 : ¬ (bs p).toList = (bs p').toList := fun e => he (bs_inj e)
          generalize bs p = X at *
          generalize bs p' = X' at *
          generalize bs q = Y at *
          generalize bs q' = Y' at *
          clear he hx hy hat hau hI
          go_wp2
          go_region
          go_wp2
          go_ret
          exact ⟨ret_bool' HR.out.symm, bel_drewN hb 1⟩
      · have d1 : decide (k < n1) = false := decide_eq_false hlt
        have hltI : ¬ (k : Int) < (n1 : Int) := by omega
        have HR := hid (show z = true by rw [← HZ.out, decide_eq_true (take_all hI.out HL1.out HL2.out hlt)])
        clear hI
        go_wp2
        go_ret
        exact ⟨ret_bool' HR.out.symm, hb⟩
  · have d0 : ((n1 : Int) != (n2 : Int)) = true := by simp; omega
    have HR := hid (show z = false by rw [← hz, decide_eq_false (fun e => hne (by rw [← hl1, ← hl2, e]))])
    clear h1 h2 hl1 hl2 hz
    go_enter Try.func66, Try.ntmps66
    go_wp2
    go_ret
    exact ⟨ret_bool' HR.out.symm, Below.refl _ _⟩
end Go.Proofs.Ythbklcpjbeelhaa
namespace Go.Proofs.Ythbklcpjbeelhaa
open Go.RowKit Go.Lib
set_option maxRecDepth 100000
set_option linter.unusedVariables false

/-- What Same is known to tell. -/
def PSameC (d : Nat) : Prop := ∀ (S1 S2 : Nat → Prop) (ns ms : List Dom.N) (a1 : Option Addr) (n1 c1 : Nat) (a2 : Option Addr) (n2 c2 : Nat) (w : World), IsN S1 d w a1 n1 ns → IsN S2 d w a2 n2 ms → Dom.sumW d ns ≤ 1000000000 → Dom.sumW d ms ≤ 1000000000 →
  Calls Try.prog 27 #[.slice a1 n1 c1, .slice a2 n2 c2] w fun e w' => e = .returned (.bool (Dom.sameB d ns ms)) ∧ Below w.heap.size w w'
set_option maxHeartbeats 8000000 in
theorem al_kind (d : Nat) (IH : PSameC d) (S1 S2 : Nat → Prop) (x y : Dom.N) (aa1 : Option Addr) (an1 ac1 : Nat) (ka1 : Option Addr) (kn1 kc1 : Nat) (aa2 : Option Addr) (an2 ac2 : Nat) (ka2 : Option Addr) (kn2 kc2 : Nat) (w : World) (ha1 : IsA w aa1 an1 x.atts) (ha2 : IsA w aa2 an2 y.atts) (hn1 : an1 ≤ 4000000000) (hn2 : an2 ≤ 4000000000) (hk1 : IsN S1 d w ka1 kn1 x.kids) (hk2 : IsN S2 d w ka2 kn2 y.kids) (hw1 : Dom.sumW d x.kids ≤ 1000000000) (hw2 : Dom.sumW d y.kids ≤ 1000000000) (hk : x.kind ≠ y.kind) :
    Calls Try.prog 56 #[nodeV x aa1 an1 ac1 ka1 kn1 kc1, nodeV y aa2 an2 ac2 ka2 kn2 kc2] w fun e w' => e = .returned (.bool (Dom.oneB (Dom.sameB d) x y)) ∧ Below w.heap.size w w' := by
  have hv : Dom.oneB (Dom.sameB d) x y = false := by
    unfold Dom.oneB
    rw [if_pos hk]
  rw [hv]
  clear hv
  have t0 : ((x.kind : Int) != (y.kind : Int)) = true := by simp; omega
  clear hk
  unfold nodeV
  clear IH ha1 ha2 hk1 hk2 hw1 hw2
  generalize bs x.name = N1 at *
  generalize bs y.name = N2 at *
  generalize bs x.text = T1 at *
  generalize bs y.text = T2 at *
  generalize x.kind = K1 at *
  generalize y.kind = K2 at *
  generalize x.space = P1 at *
  generalize y.space = P2 at *
  go_enter Try.func56, Try.ntmps56
  go_wp2
  go_ret
  exact ⟨by first | rfl | simp, ((Below.refl _ w).alloc (Nat.le_refl _) _).alloc (by simp) _⟩
set_option maxHeartbeats 8000000 in
theorem al_text2 (d : Nat) (IH : PSameC d) (S1 S2 : Nat → Prop) (x y : Dom.N) (aa1 : Option Addr) (an1 ac1 : Nat) (ka1 : Option Addr) (kn1 kc1 : Nat) (aa2 : Option Addr) (an2 ac2 : Nat) (ka2 : Option Addr) (kn2 kc2 : Nat) (w : World) (ha1 : IsA w aa1 an1 x.atts) (ha2 : IsA w aa2 an2 y.atts) (hn1 : an1 ≤ 4000000000) (hn2 : an2 ≤ 4000000000) (hk1 : IsN S1 d w ka1 kn1 x.kids) (hk2 : IsN S2 d w ka2 kn2 y.kids) (hw1 : Dom.sumW d x.kids ≤ 1000000000) (hw2 : Dom.sumW d y.kids ≤ 1000000000) (hk : x.kind = y.kind) (h2 : x.kind = 2) :
    Calls Try.prog 56 #[nodeV x aa1 an1 ac1 ka1 kn1 kc1, nodeV y aa2 an2 ac2 ka2 kn2 kc2] w fun e w' => e = .returned (.bool (Dom.oneB (Dom.sameB d) x y)) ∧ Below w.heap.size w w' := by
  have hv : Dom.oneB (Dom.sameB d) x y = decide (x.text = y.text) := by
    unfold Dom.oneB
    rw [if_neg (fun h => h hk), if_pos (by omega)]
  rw [hv]
  clear hv
  have t0 : ((x.kind : Int) != (y.kind : Int)) = false := by simp [hk]
  have e1 : ((x.kind : Int) == 1) = false := by simp; omega
  have e2 : ((x.kind : Int) == 2) = true := by simp; omega
  have e3 : ((x.kind : Int) == 3) = false := by simp; omega
  rw [← bs_eqb]
  clear hk h2
  unfold nodeV
  clear IH ha1 ha2 hk1 hk2 hw1 hw2
  generalize bs x.name = N1 at *
  generalize bs y.name = N2 at *
  generalize bs x.text = T1 at *
  generalize bs y.text = T2 at *
  generalize x.kind = K1 at *
  generalize y.kind = K2 at *
  generalize x.space = P1 at *
  generalize y.space = P2 at *
  go_enter Try.func56, Try.ntmps56
  go_wp2
  go_ret
  exact ⟨by first | rfl | simp, ((Below.refl _ w).alloc (Nat.le_refl _) _).alloc (by simp) _⟩
set_option maxHeartbeats 8000000 in
theorem al_text3 (d : Nat) (IH : PSameC d) (S1 S2 : Nat → Prop) (x y : Dom.N) (aa1 : Option Addr) (an1 ac1 : Nat) (ka1 : Option Addr) (kn1 kc1 : Nat) (aa2 : Option Addr) (an2 ac2 : Nat) (ka2 : Option Addr) (kn2 kc2 : Nat) (w : World) (ha1 : IsA w aa1 an1 x.atts) (ha2 : IsA w aa2 an2 y.atts) (hn1 : an1 ≤ 4000000000) (hn2 : an2 ≤ 4000000000) (hk1 : IsN S1 d w ka1 kn1 x.kids) (hk2 : IsN S2 d w ka2 kn2 y.kids) (hw1 : Dom.sumW d x.kids ≤ 1000000000) (hw2 : Dom.sumW d y.kids ≤ 1000000000) (hk : x.kind = y.kind) (h3 : x.kind = 3) :
    Calls Try.prog 56 #[nodeV x aa1 an1 ac1 ka1 kn1 kc1, nodeV y aa2 an2 ac2 ka2 kn2 kc2] w fun e w' => e = .returned (.bool (Dom.oneB (Dom.sameB d) x y)) ∧ Below w.heap.size w w' := by
  have hv : Dom.oneB (Dom.sameB d) x y = decide (x.text = y.text) := by
    unfold Dom.oneB
    rw [if_neg (fun h => h hk), if_pos (by omega)]
  rw [hv]
  clear hv
  have t0 : ((x.kind : Int) != (y.kind : Int)) = false := by simp [hk]
  have e1 : ((x.kind : Int) == 1) = false := by simp; omega
  have e2 : ((x.kind : Int) == 2) = false := by simp; omega
  have e3 : ((x.kind : Int) == 3) = true := by simp; omega
  rw [← bs_eqb]
  clear hk h3
  unfold nodeV
  clear IH ha1 ha2 hk1 hk2 hw1 hw2
  generalize bs x.name = N1 at *
  generalize bs y.name = N2 at *
  generalize bs x.text = T1 at *
  generalize bs y.text = T2 at *
  generalize x.kind = K1 at *
  generalize y.kind = K2 at *
  generalize x.space = P1 at *
  generalize y.space = P2 at *
  go_enter Try.func56, Try.ntmps56
  go_wp2
  go_ret
  exact ⟨by first | rfl | simp, ((Below.refl _ w).alloc (Nat.le_refl _) _).alloc (by simp) _⟩
set_option maxHeartbeats 8000000 in
theorem al_none (d : Nat) (IH : PSameC d) (S1 S2 : Nat → Prop) (x y : Dom.N) (aa1 : Option Addr) (an1 ac1 : Nat) (ka1 : Option Addr) (kn1 kc1 : Nat) (aa2 : Option Addr) (an2 ac2 : Nat) (ka2 : Option Addr) (kn2 kc2 : Nat) (w : World) (ha1 : IsA w aa1 an1 x.atts) (ha2 : IsA w aa2 an2 y.atts) (hn1 : an1 ≤ 4000000000) (hn2 : an2 ≤ 4000000000) (hk1 : IsN S1 d w ka1 kn1 x.kids) (hk2 : IsN S2 d w ka2 kn2 y.kids) (hw1 : Dom.sumW d x.kids ≤ 1000000000) (hw2 : Dom.sumW d y.kids ≤ 1000000000) (hk : x.kind = y.kind) (h1 : x.kind ≠ 1) (h2 : x.kind ≠ 2) (h3 : x.kind ≠ 3) :
    Calls Try.prog 56 #[nodeV x aa1 an1 ac1 ka1 kn1 kc1, nodeV y aa2 an2 ac2 ka2 kn2 kc2] w fun e w' => e = .returned (.bool (Dom.oneB (Dom.sameB d) x y)) ∧ Below w.heap.size w w' := by
  have hv : Dom.oneB (Dom.sameB d) x y = true := by
    unfold Dom.oneB
    rw [if_neg (fun h => h hk), if_neg (by omega), if_neg h1]
  rw [hv]
  clear hv
  have t0 : ((x.kind : Int) != (y.kind : Int)) = false := by simp [hk]
  have e1 : ((x.kind : Int) == 1) = false := by simp; omega
  have e2 : ((x.kind : Int) == 2) = false := by simp; omega
  have e3 : ((x.kind : Int) == 3) = false := by simp; omega
  clear hk h1 h2 h3
  unfold nodeV
  clear IH ha1 ha2 hk1 hk2 hw1 hw2
  generalize bs x.name = N1 at *
  generalize bs y.name = N2 at *
  generalize bs x.text = T1 at *
  generalize bs y.text = T2 at *
  generalize x.kind = K1 at *
  generalize y.kind = K2 at *
  generalize x.space = P1 at *
  generalize y.space = P2 at *
  go_enter Try.func56, Try.ntmps56
  go_wp2
  go_ret
  exact ⟨by first | rfl | simp, ((Below.refl _ w).alloc (Nat.le_refl _) _).alloc (by simp) _⟩
set_option maxHeartbeats 8000000 in
theorem al_space (d : Nat) (IH : PSameC d) (S1 S2 : Nat → Prop) (x y : Dom.N) (aa1 : Option Addr) (an1 ac1 : Nat) (ka1 : Option Addr) (kn1 kc1 : Nat) (aa2 : Option Addr) (an2 ac2 : Nat) (ka2 : Option Addr) (kn2 kc2 : Nat) (w : World) (ha1 : IsA w aa1 an1 x.atts) (ha2 : IsA w aa2 an2 y.atts) (hn1 : an1 ≤ 4000000000) (hn2 : an2 ≤ 4000000000) (hk1 : IsN S1 d w ka1 kn1 x.kids) (hk2 : IsN S2 d w ka2 kn2 y.kids) (hw1 : Dom.sumW d x.kids ≤ 1000000000) (hw2 : Dom.sumW d y.kids ≤ 1000000000) (hk : x.kind = y.kind) (h1 : x.kind = 1) (hs : x.space ≠ y.space) :
    Calls Try.prog 56 #[nodeV x aa1 an1 ac1 ka1 kn1 kc1, nodeV y aa2 an2 ac2 ka2 kn2 kc2] w fun e w' => e = .returned (.bool (Dom.oneB (Dom.sameB d) x y)) ∧ Below w.heap.size w w' := by
  have hv : Dom.oneB (Dom.sameB d) x y = false := by
    unfold Dom.oneB
    rw [if_neg (fun h => h hk), if_neg (by omega), if_pos h1, decide_eq_false (fun h => hs h.1), Bool.false_and]
  rw [hv]
  clear hv
  have t0 : ((x.kind : Int) != (y.kind : Int)) = false := by simp [hk]
  have e1 : ((x.kind : Int) == 1) = true := by simp; omega
  have s0 : ((x.space : Int) == (y.space : Int)) = false := by simp; omega
  clear hk h1 hs
  unfold nodeV
  clear IH ha1 ha2 hk1 hk2 hw1 hw2
  generalize bs x.name = N1 at *
  generalize bs y.name = N2 at *
  generalize bs x.text = T1 at *
  generalize bs y.text = T2 at *
  generalize x.kind = K1 at *
  generalize y.kind = K2 at *
  generalize x.space = P1 at *
  generalize y.space = P2 at *
  go_enter Try.func56, Try.ntmps56
  go_wp2
  go_ret
  exact ⟨by first | rfl | simp, ((Below.refl _ w).alloc (Nat.le_refl _) _).alloc (by simp) _⟩
set_option maxHeartbeats 8000000 in
theorem al_name (d : Nat) (IH : PSameC d) (S1 S2 : Nat → Prop) (x y : Dom.N) (aa1 : Option Addr) (an1 ac1 : Nat) (ka1 : Option Addr) (kn1 kc1 : Nat) (aa2 : Option Addr) (an2 ac2 : Nat) (ka2 : Option Addr) (kn2 kc2 : Nat) (w : World) (ha1 : IsA w aa1 an1 x.atts) (ha2 : IsA w aa2 an2 y.atts) (hn1 : an1 ≤ 4000000000) (hn2 : an2 ≤ 4000000000) (hk1 : IsN S1 d w ka1 kn1 x.kids) (hk2 : IsN S2 d w ka2 kn2 y.kids) (hw1 : Dom.sumW d x.kids ≤ 1000000000) (hw2 : Dom.sumW d y.kids ≤ 1000000000) (hk : x.kind = y.kind) (h1 : x.kind = 1) (hs : x.space = y.space) (hn : x.name ≠ y.name) :
    Calls Try.prog 56 #[nodeV x aa1 an1 ac1 ka1 kn1 kc1, nodeV y aa2 an2 ac2 ka2 kn2 kc2] w fun e w' => e = .returned (.bool (Dom.oneB (Dom.sameB d) x y)) ∧ Below w.heap.size w w' := by
  have hv : Dom.oneB (Dom.sameB d) x y = false := by
    unfold Dom.oneB
    rw [if_neg (fun h => h hk), if_neg (by omega), if_pos h1, decide_eq_false (fun h => hn h.2.1), Bool.false_and]
  rw [hv]
  clear hv
  have t0 : ((x.kind : Int) != (y.kind : Int)) = false := by simp [hk]
  have e1 : ((x.kind : Int) == 1) = true := by simp; omega
  have s0 : ((x.space : Int) == (y.space : Int)) = true := by simp [hs]
  have m0 : ¬ (bs x.name).toList = (bs y.name).toList := fun e => hn (bs_inj e)
  have m1 : ((bs x.name).toList == (bs y.name).toList) = false := by rw [bs_eqb, decide_eq_false hn]
  clear hk h1 hs hn
  unfold nodeV
  clear IH ha1 ha2 hk1 hk2 hw1 hw2
  generalize bs x.name = N1 at *
  generalize bs y.name = N2 at *
  generalize bs x.text = T1 at *
  generalize bs y.text = T2 at *
  generalize x.kind = K1 at *
  generalize y.kind = K2 at *
  generalize x.space = P1 at *
  generalize y.space = P2 at *
  go_enter Try.func56, Try.ntmps56
  go_wp2
  go_ret
  exact ⟨by first | rfl | simp, ((Below.refl _ w).alloc (Nat.le_refl _) _).alloc (by simp) _⟩
set_option maxHeartbeats 8000000 in
theorem al_atts (d : Nat) (IH : PSameC d) (S1 S2 : Nat → Prop) (x y : Dom.N) (aa1 : Option Addr) (an1 ac1 : Nat) (ka1 : Option Addr) (kn1 kc1 : Nat) (aa2 : Option Addr) (an2 ac2 : Nat) (ka2 : Option Addr) (kn2 kc2 : Nat) (w : World) (ha1 : IsA w aa1 an1 x.atts) (ha2 : IsA w aa2 an2 y.atts) (hn1 : an1 ≤ 4000000000) (hn2 : an2 ≤ 4000000000) (hk1 : IsN S1 d w ka1 kn1 x.kids) (hk2 : IsN S2 d w ka2 kn2 y.kids) (hw1 : Dom.sumW d x.kids ≤ 1000000000) (hw2 : Dom.sumW d y.kids ≤ 1000000000) (hk : x.kind = y.kind) (h1 : x.kind = 1) (hs : x.space = y.space) (hn : x.name = y.name) (ht : x.atts ≠ y.atts) :
    Calls Try.prog 56 #[nodeV x aa1 an1 ac1 ka1 kn1 kc1, nodeV y aa2 an2 ac2 ka2 kn2 kc2] w fun e w' => e = .returned (.bool (Dom.oneB (Dom.sameB d) x y)) ∧ Below w.heap.size w w' := by
  have hv : Dom.oneB (Dom.sameB d) x y = false := by
    unfold Dom.oneB
    rw [if_neg (fun h => h hk), if_neg (by omega), if_pos h1, decide_eq_false (fun h => ht h.2.2), Bool.false_and]
  rw [hv]
  clear hv
  have t0 : ((x.kind : Int) != (y.kind : Int)) = false := by simp [hk]
  have e1 : ((x.kind : Int) == 1) = true := by simp; omega
  have s0 : ((x.space : Int) == (y.space : Int)) = true := by simp [hs]
  have m1 : ((bs x.name).toList == (bs y.name).toList) = true := by rw [bs_eqb, decide_eq_true hn]
  have HEQ := hid fun W (hW : Below w.heap.size w W) => eqA_any aa1 an1 ac1 aa2 an2 ac2 x.atts y.atts W (ha1.below hW) (ha2.below hW) hn1 hn2
  rw [decide_eq_false ht] at HEQ
  unfold nodeV
  rw [hn] at m1 ⊢
  clear hk h1 hs hn ht IH ha1 ha2 hk1 hk2 hw1 hw2
  generalize bs y.name = N2 at *
  generalize bs x.text = T1 at *
  generalize bs y.text = T2 at *
  generalize x.kind = K1 at *
  generalize y.kind = K2 at *
  generalize x.space = P1 at *
  generalize y.space = P2 at *
  have b0 : Below w.heap.size w ((w.alloc (.cells #[.int .u8 K1, .int .u8 P1, .string N2, .slice aa1 an1 ac1, .string T1, .slice ka1 kn1 kc1] 32)).alloc (.cells #[.int .u8 K2, .int .u8 P2, .string N2, .slice aa2 an2 ac2, .string T2, .slice ka2 kn2 kc2] 32)) := ((Below.refl _ w).alloc (Nat.le_refl _) _).alloc (by simp) _
  have Q1 := (BlkW.new w #[.int .u8 K1, .int .u8 P1, .string N2, .slice aa1 an1 ac1, .string T1, .slice ka1 kn1 kc1] 32).alloc (.cells #[.int .u8 K2, .int .u8 P2, .string N2, .slice aa2 an2 ac2, .string T2, .slice ka2 kn2 kc2] 32)
  have Q2 := BlkW.new (w.alloc (.cells #[.int .u8 K1, .int .u8 P1, .string N2, .slice aa1 an1 ac1, .string T1, .slice ka1 kn1 kc1] 32)) #[.int .u8 K2, .int .u8 P2, .string N2, .slice aa2 an2 ac2, .string T2, .slice ka2 kn2 kc2] 32
  rw [World.size_alloc] at Q2
  have HQ1 := hid Q1
  have HQ2 := hid Q2
  have HB0 := hid b0
  have HEQ0 := hid (HEQ.out _ b0)
  clear Q1 Q2 b0
  go_enter Try.func56, Try.ntmps56
  go_wp2_with fail
  refine (HEQ0.out).mono ?_
  rintro e w2 ⟨rfl, b2⟩
  have HB2 := hid (HB0.out.trans (b2.mono HB0.out.size))
  clear b2
  go_wp2
  go_ret
  exact ⟨rfl, HB2.out⟩
set_option maxHeartbeats 8000000 in
theorem al_kids (d : Nat) (IH : PSameC d) (S1 S2 : Nat → Prop) (x y : Dom.N) (aa1 : Option Addr) (an1 ac1 : Nat) (ka1 : Option Addr) (kn1 kc1 : Nat) (aa2 : Option Addr) (an2 ac2 : Nat) (ka2 : Option Addr) (kn2 kc2 : Nat) (w : World) (ha1 : IsA w aa1 an1 x.atts) (ha2 : IsA w aa2 an2 y.atts) (hn1 : an1 ≤ 4000000000) (hn2 : an2 ≤ 4000000000) (hk1 : IsN S1 d w ka1 kn1 x.kids) (hk2 : IsN S2 d w ka2 kn2 y.kids) (hw1 : Dom.sumW d x.kids ≤ 1000000000) (hw2 : Dom.sumW d y.kids ≤ 1000000000) (hk : x.kind = y.kind) (h1 : x.kind = 1) (hs : x.space = y.space) (hn : x.name = y.name) (ht : x.atts = y.atts) :
    Calls Try.prog 56 #[nodeV x aa1 an1 ac1 ka1 kn1 kc1, nodeV y aa2 an2 ac2 ka2 kn2 kc2] w fun e w' => e = .returned (.bool (Dom.oneB (Dom.sameB d) x y)) ∧ Below w.heap.size w w' := by
  have hv : Dom.oneB (Dom.sameB d) x y = Dom.sameB d x.kids y.kids := by
    unfold Dom.oneB
    rw [if_neg (fun h => h hk), if_neg (by omega), if_pos h1, decide_eq_true (show x.space = y.space ∧ x.name = y.name ∧ x.atts = y.atts from ⟨hs, hn, ht⟩), Bool.true_and]
  rw [hv]
  clear hv
  have t0 : ((x.kind : Int) != (y.kind : Int)) = false := by simp [hk]
  have e1 : ((x.kind : Int) == 1) = true := by simp; omega
  have s0 : ((x.space : Int) == (y.space : Int)) = true := by simp [hs]
  have m1 : ((bs x.name).toList == (bs y.name).toList) = true := by rw [bs_eqb, decide_eq_true hn]
  have HEQ := hid fun W (hW : Below w.heap.size w W) => eqA_any aa1 an1 ac1 aa2 an2 ac2 x.atts y.atts W (ha1.below hW) (ha2.below hW) hn1 hn2
  rw [decide_eq_true ht] at HEQ
  have HIK := hid fun W (hW : Below w.heap.size w W) => IH S1 S2 x.kids y.kids ka1 kn1 kc1 ka2 kn2 kc2 W (hk1.below hW) (hk2.below hW) hw1 hw2
  obtain ⟨z, hz⟩ : ∃ z, Dom.sameB d x.kids y.kids = z := ⟨_, rfl⟩
  rw [hz] at HIK ⊢
  clear hz
  unfold nodeV
  rw [hn] at m1 ⊢
  clear hk h1 hs hn ht IH ha1 ha2 hk1 hk2 hw1 hw2
  generalize bs y.name = N2 at *
  generalize bs x.text = T1 at *
  generalize bs y.text = T2 at *
  generalize x.kind = K1 at *
  generalize y.kind = K2 at *
  generalize x.space = P1 at *
  generalize y.space = P2 at *
  have b0 : Below w.heap.size w ((w.alloc (.cells #[.int .u8 K1, .int .u8 P1, .string N2, .slice aa1 an1 ac1, .string T1, .slice ka1 kn1 kc1] 32)).alloc (.cells #[.int .u8 K2, .int .u8 P2, .string N2, .slice aa2 an2 ac2, .string T2, .slice ka2 kn2 kc2] 32)) := ((Below.refl _ w).alloc (Nat.le_refl _) _).alloc (by simp) _
  have Q1 := (BlkW.new w #[.int .u8 K1, .int .u8 P1, .string N2, .slice aa1 an1 ac1, .string T1, .slice ka1 kn1 kc1] 32).alloc (.cells #[.int .u8 K2, .int .u8 P2, .string N2, .slice aa2 an2 ac2, .string T2, .slice ka2 kn2 kc2] 32)
  have Q2 := BlkW.new (w.alloc (.cells #[.int .u8 K1, .int .u8 P1, .string N2, .slice aa1 an1 ac1, .string T1, .slice ka1 kn1 kc1] 32)) #[.int .u8 K2, .int .u8 P2, .string N2, .slice aa2 an2 ac2, .string T2, .slice ka2 kn2 kc2] 32
  rw [World.size_alloc] at Q2
  have HQ1 := hid Q1
  have HQ2 := hid Q2
  have HB0 := hid b0
  have HEQ0 := hid (HEQ.out _ b0)
  clear Q1 Q2 b0
  go_enter Try.func56, Try.ntmps56
  go_wp2_with fail
  refine (HEQ0.out).mono ?_
  rintro e w2 ⟨rfl, b2⟩
  have HB2 := hid (HB0.out.trans (b2.mono HB0.out.size))
  have q5 := (HQ1.out.below b2 HQ1.out.lt).cell 5
  have r5 := (HQ2.out.below b2 HQ2.out.lt).cell 5
  simp only [List.getElem?_toArray, List.getElem?_cons_zero, List.getElem?_cons_succ] at q5 r5
  have HIK2 := hid (HIK.out _ HB2.out)
  clear b2
  go_wp2_with fail
  refine (HIK2.out).mono ?_
  rintro e w3 ⟨rfl, b3⟩
  have HB3 := hid (HB2.out.trans (b3.mono HB2.out.size))
  clear b3
  go_wp2
  go_ret
  exact ⟨rfl, HB3.out⟩
theorem al_any (d : Nat) (IH : PSameC d) (S1 S2 : Nat → Prop) (x y : Dom.N) (aa1 : Option Addr) (an1 ac1 : Nat) (ka1 : Option Addr) (kn1 kc1 : Nat) (aa2 : Option Addr) (an2 ac2 : Nat) (ka2 : Option Addr) (kn2 kc2 : Nat) (w : World) (ha1 : IsA w aa1 an1 x.atts) (ha2 : IsA w aa2 an2 y.atts) (hn1 : an1 ≤ 4000000000) (hn2 : an2 ≤ 4000000000) (hk1 : IsN S1 d w ka1 kn1 x.kids) (hk2 : IsN S2 d w ka2 kn2 y.kids) (hw1 : Dom.sumW d x.kids ≤ 1000000000) (hw2 : Dom.sumW d y.kids ≤ 1000000000) :
    Calls Try.prog 56 #[nodeV x aa1 an1 ac1 ka1 kn1 kc1, nodeV y aa2 an2 ac2 ka2 kn2 kc2] w fun e w' => e = .returned (.bool (Dom.oneB (Dom.sameB d) x y)) ∧ Below w.heap.size w w' := by
  by_cases hk : x.kind = y.kind
  · by_cases h2 : x.kind = 2
    · exact al_text2 d IH S1 S2 x y aa1 an1 ac1 ka1 kn1 kc1 aa2 an2 ac2 ka2 kn2 kc2 w ha1 ha2 hn1 hn2 hk1 hk2 hw1 hw2 hk h2
    by_cases h3 : x.kind = 3
    · exact al_text3 d IH S1 S2 x y aa1 an1 ac1 ka1 kn1 kc1 aa2 an2 ac2 ka2 kn2 kc2 w ha1 ha2 hn1 hn2 hk1 hk2 hw1 hw2 hk h3
    by_cases h1 : x.kind = 1
    · by_cases hs : x.space = y.space
      · by_cases hn : x.name = y.name
        · by_cases ht : x.atts = y.atts
          · exact al_kids d IH S1 S2 x y aa1 an1 ac1 ka1 kn1 kc1 aa2 an2 ac2 ka2 kn2 kc2 w ha1 ha2 hn1 hn2 hk1 hk2 hw1 hw2 hk h1 hs hn ht
          · exact al_atts d IH S1 S2 x y aa1 an1 ac1 ka1 kn1 kc1 aa2 an2 ac2 ka2 kn2 kc2 w ha1 ha2 hn1 hn2 hk1 hk2 hw1 hw2 hk h1 hs hn ht
        · exact al_name d IH S1 S2 x y aa1 an1 ac1 ka1 kn1 kc1 aa2 an2 ac2 ka2 kn2 kc2 w ha1 ha2 hn1 hn2 hk1 hk2 hw1 hw2 hk h1 hs hn
      · exact al_space d IH S1 S2 x y aa1 an1 ac1 ka1 kn1 kc1 aa2 an2 ac2 ka2 kn2 kc2 w ha1 ha2 hn1 hn2 hk1 hk2 hw1 hw2 hk h1 hs
    · exact al_none d IH S1 S2 x y aa1 an1 ac1 ka1 kn1 kc1 aa2 an2 ac2 ka2 kn2 kc2 w ha1 ha2 hn1 hn2 hk1 hk2 hw1 hw2 hk h1 h2 h3
  · exact al_kind d IH S1 S2 x y aa1 an1 ac1 ka1 kn1 kc1 aa2 an2 ac2 ka2 kn2 kc2 w ha1 ha2 hn1 hn2 hk1 hk2 hw1 hw2 hk
end Go.Proofs.Ythbklcpjbeelhaa
