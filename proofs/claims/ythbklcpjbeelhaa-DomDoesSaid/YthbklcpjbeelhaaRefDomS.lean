/- Walks over the reference of layer 10: when nodes are alike. Written by tools/gen_refdoms.py. -/
import Derived.Test.YthbklcpjbeelhaaNodeArg
import Derived.Test.YthbklcpjbeelhaaNodeSame
import Derived.Test.YthbklcpjbeelhaaAppT
import Derived.Test.YthbklcpjbeelhaaWld
import Derived.Deep.RegionHeld3
namespace Go.Proofs.Ythbklcpjbeelhaa
open Go.RowKit Go.Lib
set_option maxRecDepth 100000
set_option linter.unusedVariables false

/-- A node as a value. -/
def nodeV (x : Dom.N) (aa : Option Addr) (an ac : Nat) (ka : Option Addr) (kn kc : Nat) : Value := .agg #[.int .u8 x.kind, .int .u8 x.space, .string (bs x.name), .slice aa an ac, .string (bs x.text), .slice ka kn kc]
/-- What the reference's Same is known to tell. -/
def RSameC (d : Nat) : Prop := ∀ (S1 S2 : Nat → Prop) (ns ms : List Dom.N) (a1 : Option Addr) (n1 c1 : Nat) (a2 : Option Addr) (n2 c2 : Nat) (w : World), IsN S1 d w a1 n1 ns → IsN S2 d w a2 n2 ms → Dom.sumW d ns ≤ 1000000000 → Dom.sumW d ms ≤ 1000000000 →
  Calls Try.prog 28 #[.slice a1 n1 c1, .slice a2 n2 c2] w fun e w' => e = .returned (.bool (Dom.sameB d ns ms)) ∧ Below w.heap.size w w'
theorem bs_eqb (x y : List UInt8) : ((bs x).toList == (bs y).toList) = decide (x = y) := by
  rw [ByteArray.toList_eq, ByteArray.toList_eq, Bool.eq_iff_iff]
  show (x == y) = true ↔ _
  simp
set_option maxHeartbeats 8000000 in
theorem one_kind (d : Nat) (IH : RSameC d) (S1 S2 : Nat → Prop) (x y : Dom.N) (aa1 : Option Addr) (an1 ac1 : Nat) (ka1 : Option Addr) (kn1 kc1 : Nat) (aa2 : Option Addr) (an2 ac2 : Nat) (ka2 : Option Addr) (kn2 kc2 : Nat) (w : World) (ha1 : IsA w aa1 an1 x.atts) (ha2 : IsA w aa2 an2 y.atts) (hn1 : an1 ≤ 4000000000) (hn2 : an2 ≤ 4000000000) (hk1 : IsN S1 d w ka1 kn1 x.kids) (hk2 : IsN S2 d w ka2 kn2 y.kids) (hw1 : Dom.sumW d x.kids ≤ 1000000000) (hw2 : Dom.sumW d y.kids ≤ 1000000000) (hk : x.kind ≠ y.kind) :
    Calls Try.prog 57 #[nodeV x aa1 an1 ac1 ka1 kn1 kc1, nodeV y aa2 an2 ac2 ka2 kn2 kc2] w fun e w' => e = .returned (.bool (Dom.oneB (Dom.sameB d) x y)) ∧ Below w.heap.size w w' := by
  have hv : Dom.oneB (Dom.sameB d) x y = false := by
    unfold Dom.oneB
    rw [if_pos hk]
  rw [hv]
  clear hv
  have t0 : ((x.kind : Int) != (y.kind : Int)) = true := by simp; omega
  clear hk
  unfold nodeV
  clear IH ha1 ha2 hk1 hk2 hw1 hw2
  generalize bs x.name = N1 at *
  generalize bs y.name = N2 at *
  generalize bs x.text = T1 at *
  generalize bs y.text = T2 at *
  generalize x.kind = K1 at *
  generalize y.kind = K2 at *
  generalize x.space = P1 at *
  generalize y.space = P2 at *
  go_enter Try.func57, Try.ntmps57
  go_wp2
  go_ret
  exact ⟨by first | rfl | simp, ((Below.refl _ w).alloc (Nat.le_refl _) _).alloc (by simp) _⟩
set_option maxHeartbeats 8000000 in
theorem one_text2 (d : Nat) (IH : RSameC d) (S1 S2 : Nat → Prop) (x y : Dom.N) (aa1 : Option Addr) (an1 ac1 : Nat) (ka1 : Option Addr) (kn1 kc1 : Nat) (aa2 : Option Addr) (an2 ac2 : Nat) (ka2 : Option Addr) (kn2 kc2 : Nat) (w : World) (ha1 : IsA w aa1 an1 x.atts) (ha2 : IsA w aa2 an2 y.atts) (hn1 : an1 ≤ 4000000000) (hn2 : an2 ≤ 4000000000) (hk1 : IsN S1 d w ka1 kn1 x.kids) (hk2 : IsN S2 d w ka2 kn2 y.kids) (hw1 : Dom.sumW d x.kids ≤ 1000000000) (hw2 : Dom.sumW d y.kids ≤ 1000000000) (hk : x.kind = y.kind) (h2 : x.kind = 2) :
    Calls Try.prog 57 #[nodeV x aa1 an1 ac1 ka1 kn1 kc1, nodeV y aa2 an2 ac2 ka2 kn2 kc2] w fun e w' => e = .returned (.bool (Dom.oneB (Dom.sameB d) x y)) ∧ Below w.heap.size w w' := by
  have hv : Dom.oneB (Dom.sameB d) x y = decide (x.text = y.text) := by
    unfold Dom.oneB
    rw [if_neg (fun h => h hk), if_pos (by omega)]
  rw [hv]
  clear hv
  have t0 : ((x.kind : Int) != (y.kind : Int)) = false := by simp [hk]
  have t0' : ((y.kind : Int) != (y.kind : Int)) = false := by simp
  have e2 : ((x.kind : Int) == 2) = true := by simp; omega
  have e3 : ((x.kind : Int) == 3) = false := by simp; omega
  rw [← bs_eqb]
  clear hk h2 t0'
  unfold nodeV
  clear IH ha1 ha2 hk1 hk2 hw1 hw2
  generalize bs x.name = N1 at *
  generalize bs y.name = N2 at *
  generalize bs x.text = T1 at *
  generalize bs y.text = T2 at *
  generalize x.kind = K1 at *
  generalize y.kind = K2 at *
  generalize x.space = P1 at *
  generalize y.space = P2 at *
  go_enter Try.func57, Try.ntmps57
  go_wp2
  go_ret
  exact ⟨by first | rfl | simp, ((Below.refl _ w).alloc (Nat.le_refl _) _).alloc (by simp) _⟩
set_option maxHeartbeats 8000000 in
theorem one_text3 (d : Nat) (IH : RSameC d) (S1 S2 : Nat → Prop) (x y : Dom.N) (aa1 : Option Addr) (an1 ac1 : Nat) (ka1 : Option Addr) (kn1 kc1 : Nat) (aa2 : Option Addr) (an2 ac2 : Nat) (ka2 : Option Addr) (kn2 kc2 : Nat) (w : World) (ha1 : IsA w aa1 an1 x.atts) (ha2 : IsA w aa2 an2 y.atts) (hn1 : an1 ≤ 4000000000) (hn2 : an2 ≤ 4000000000) (hk1 : IsN S1 d w ka1 kn1 x.kids) (hk2 : IsN S2 d w ka2 kn2 y.kids) (hw1 : Dom.sumW d x.kids ≤ 1000000000) (hw2 : Dom.sumW d y.kids ≤ 1000000000) (hk : x.kind = y.kind) (h3 : x.kind = 3) :
    Calls Try.prog 57 #[nodeV x aa1 an1 ac1 ka1 kn1 kc1, nodeV y aa2 an2 ac2 ka2 kn2 kc2] w fun e w' => e = .returned (.bool (Dom.oneB (Dom.sameB d) x y)) ∧ Below w.heap.size w w' := by
  have hv : Dom.oneB (Dom.sameB d) x y = decide (x.text = y.text) := by
    unfold Dom.oneB
    rw [if_neg (fun h => h hk), if_pos (by omega)]
  rw [hv]
  clear hv
  have t0 : ((x.kind : Int) != (y.kind : Int)) = false := by simp [hk]
  have t0' : ((y.kind : Int) != (y.kind : Int)) = false := by simp
  have e2 : ((x.kind : Int) == 2) = false := by simp; omega
  have e3 : ((x.kind : Int) == 3) = true := by simp; omega
  rw [← bs_eqb]
  clear hk h3 t0'
  unfold nodeV
  clear IH ha1 ha2 hk1 hk2 hw1 hw2
  generalize bs x.name = N1 at *
  generalize bs y.name = N2 at *
  generalize bs x.text = T1 at *
  generalize bs y.text = T2 at *
  generalize x.kind = K1 at *
  generalize y.kind = K2 at *
  generalize x.space = P1 at *
  generalize y.space = P2 at *
  go_enter Try.func57, Try.ntmps57
  go_wp2
  go_ret
  exact ⟨by first | rfl | simp, ((Below.refl _ w).alloc (Nat.le_refl _) _).alloc (by simp) _⟩
set_option maxHeartbeats 8000000 in
theorem one_none (d : Nat) (IH : RSameC d) (S1 S2 : Nat → Prop) (x y : Dom.N) (aa1 : Option Addr) (an1 ac1 : Nat) (ka1 : Option Addr) (kn1 kc1 : Nat) (aa2 : Option Addr) (an2 ac2 : Nat) (ka2 : Option Addr) (kn2 kc2 : Nat) (w : World) (ha1 : IsA w aa1 an1 x.atts) (ha2 : IsA w aa2 an2 y.atts) (hn1 : an1 ≤ 4000000000) (hn2 : an2 ≤ 4000000000) (hk1 : IsN S1 d w ka1 kn1 x.kids) (hk2 : IsN S2 d w ka2 kn2 y.kids) (hw1 : Dom.sumW d x.kids ≤ 1000000000) (hw2 : Dom.sumW d y.kids ≤ 1000000000) (hk : x.kind = y.kind) (h1 : x.kind ≠ 1) (h2 : x.kind ≠ 2) (h3 : x.kind ≠ 3) :
    Calls Try.prog 57 #[nodeV x aa1 an1 ac1 ka1 kn1 kc1, nodeV y aa2 an2 ac2 ka2 kn2 kc2] w fun e w' => e = .returned (.bool (Dom.oneB (Dom.sameB d) x y)) ∧ Below w.heap.size w w' := by
  have hv : Dom.oneB (Dom.sameB d) x y = true := by
    unfold Dom.oneB
    rw [if_neg (fun h => h hk), if_neg (by omega), if_neg h1]
  rw [hv]
  clear hv
  have t0 : ((x.kind : Int) != (y.kind : Int)) = false := by simp [hk]
  have t0' : ((y.kind : Int) != (y.kind : Int)) = false := by simp
  have e1 : ((x.kind : Int) == 1) = false := by simp; omega
  have e2 : ((x.kind : Int) == 2) = false := by simp; omega
  have e3 : ((x.kind : Int) == 3) = false := by simp; omega
  clear hk h1 h2 h3 t0'
  unfold nodeV
  clear IH ha1 ha2 hk1 hk2 hw1 hw2
  generalize bs x.name = N1 at *
  generalize bs y.name = N2 at *
  generalize bs x.text = T1 at *
  generalize bs y.text = T2 at *
  generalize x.kind = K1 at *
  generalize y.kind = K2 at *
  generalize x.space = P1 at *
  generalize y.space = P2 at *
  go_enter Try.func57, Try.ntmps57
  go_wp2
  go_ret
  exact ⟨by first | rfl | simp, ((Below.refl _ w).alloc (Nat.le_refl _) _).alloc (by simp) _⟩
set_option maxHeartbeats 8000000 in
theorem one_space (d : Nat) (IH : RSameC d) (S1 S2 : Nat → Prop) (x y : Dom.N) (aa1 : Option Addr) (an1 ac1 : Nat) (ka1 : Option Addr) (kn1 kc1 : Nat) (aa2 : Option Addr) (an2 ac2 : Nat) (ka2 : Option Addr) (kn2 kc2 : Nat) (w : World) (ha1 : IsA w aa1 an1 x.atts) (ha2 : IsA w aa2 an2 y.atts) (hn1 : an1 ≤ 4000000000) (hn2 : an2 ≤ 4000000000) (hk1 : IsN S1 d w ka1 kn1 x.kids) (hk2 : IsN S2 d w ka2 kn2 y.kids) (hw1 : Dom.sumW d x.kids ≤ 1000000000) (hw2 : Dom.sumW d y.kids ≤ 1000000000) (hk : x.kind = y.kind) (h1 : x.kind = 1) (hs : x.space ≠ y.space) :
    Calls Try.prog 57 #[nodeV x aa1 an1 ac1 ka1 kn1 kc1, nodeV y aa2 an2 ac2 ka2 kn2 kc2] w fun e w' => e = .returned (.bool (Dom.oneB (Dom.sameB d) x y)) ∧ Below w.heap.size w w' := by
  have hv : Dom.oneB (Dom.sameB d) x y = false := by
    unfold Dom.oneB
    rw [if_neg (fun h => h hk), if_neg (by omega), if_pos h1, decide_eq_false (fun h => hs h.1), Bool.false_and]
  rw [hv]
  clear hv
  have t0 : ((x.kind : Int) != (y.kind : Int)) = false := by simp [hk]
  have t0' : ((y.kind : Int) != (y.kind : Int)) = false := by simp
  have e1 : ((x.kind : Int) == 1) = true := by simp; omega
  have e2 : ((x.kind : Int) == 2) = false := by simp; omega
  have e3 : ((x.kind : Int) == 3) = false := by simp; omega
  have s0 : ((x.space : Int) != (y.space : Int)) = true := by simp; omega
  clear hk h1 hs t0'
  unfold nodeV
  clear IH ha1 ha2 hk1 hk2 hw1 hw2
  generalize bs x.name = N1 at *
  generalize bs y.name = N2 at *
  generalize bs x.text = T1 at *
  generalize bs y.text = T2 at *
  generalize x.kind = K1 at *
  generalize y.kind = K2 at *
  generalize x.space = P1 at *
  generalize y.space = P2 at *
  go_enter Try.func57, Try.ntmps57
  go_wp2
  go_ret
  exact ⟨by first | rfl | simp, ((Below.refl _ w).alloc (Nat.le_refl _) _).alloc (by simp) _⟩
set_option maxHeartbeats 8000000 in
theorem one_name (d : Nat) (IH : RSameC d) (S1 S2 : Nat → Prop) (x y : Dom.N) (aa1 : Option Addr) (an1 ac1 : Nat) (ka1 : Option Addr) (kn1 kc1 : Nat) (aa2 : Option Addr) (an2 ac2 : Nat) (ka2 : Option Addr) (kn2 kc2 : Nat) (w : World) (ha1 : IsA w aa1 an1 x.atts) (ha2 : IsA w aa2 an2 y.atts) (hn1 : an1 ≤ 4000000000) (hn2 : an2 ≤ 4000000000) (hk1 : IsN S1 d w ka1 kn1 x.kids) (hk2 : IsN S2 d w ka2 kn2 y.kids) (hw1 : Dom.sumW d x.kids ≤ 1000000000) (hw2 : Dom.sumW d y.kids ≤ 1000000000) (hk : x.kind = y.kind) (h1 : x.kind = 1) (hs : x.space = y.space) (hn : x.name ≠ y.name) :
    Calls Try.prog 57 #[nodeV x aa1 an1 ac1 ka1 kn1 kc1, nodeV y aa2 an2 ac2 ka2 kn2 kc2] w fun e w' => e = .returned (.bool (Dom.oneB (Dom.sameB d) x y)) ∧ Below w.heap.size w w' := by
  have hv : Dom.oneB (Dom.sameB d) x y = false := by
    unfold Dom.oneB
    rw [if_neg (fun h => h hk), if_neg (by omega), if_pos h1, decide_eq_false (fun h => hn h.2.1), Bool.false_and]
  rw [hv]
  clear hv
  have t0 : ((x.kind : Int) != (y.kind : Int)) = false := by simp [hk]
  have t0' : ((y.kind : Int) != (y.kind : Int)) = false := by simp
  have e1 : ((x.kind : Int) == 1) = true := by simp; omega
  have e2 : ((x.kind : Int) == 2) = false := by simp; omega
  have e3 : ((x.kind : Int) == 3) = false := by simp; omega
  have s0 : ((x.space : Int) != (y.space : Int)) = false := by simp [hs]
  have m0 : ¬ (bs x.name).toList = (bs y.name).toList := fun e => hn (bs_inj e)
  have m1 : ((bs x.name).toList == (bs y.name).toList) = false := by rw [bs_eqb, decide_eq_false hn]
  clear hk h1 hs hn t0'
  unfold nodeV
  clear IH ha1 ha2 hk1 hk2 hw1 hw2
  generalize bs x.name = N1 at *
  generalize bs y.name = N2 at *
  generalize bs x.text = T1 at *
  generalize bs y.text = T2 at *
  generalize x.kind = K1 at *
  generalize y.kind = K2 at *
  generalize x.space = P1 at *
  generalize y.space = P2 at *
  go_enter Try.func57, Try.ntmps57
  go_wp2
  go_ret
  exact ⟨by first | rfl | simp, ((Below.refl _ w).alloc (Nat.le_refl _) _).alloc (by simp) _⟩
set_option maxHeartbeats 8000000 in
theorem one_len (d : Nat) (IH : RSameC d) (S1 S2 : Nat → Prop) (x y : Dom.N) (aa1 : Option Addr) (an1 ac1 : Nat) (ka1 : Option Addr) (kn1 kc1 : Nat) (aa2 : Option Addr) (an2 ac2 : Nat) (ka2 : Option Addr) (kn2 kc2 : Nat) (w : World) (ha1 : IsA w aa1 an1 x.atts) (ha2 : IsA w aa2 an2 y.atts) (hn1 : an1 ≤ 4000000000) (hn2 : an2 ≤ 4000000000) (hk1 : IsN S1 d w ka1 kn1 x.kids) (hk2 : IsN S2 d w ka2 kn2 y.kids) (hw1 : Dom.sumW d x.kids ≤ 1000000000) (hw2 : Dom.sumW d y.kids ≤ 1000000000) (hk : x.kind = y.kind) (h1 : x.kind = 1) (hs : x.space = y.space) (hn : x.name = y.name) (hl : an1 ≠ an2) :
    Calls Try.prog 57 #[nodeV x aa1 an1 ac1 ka1 kn1 kc1, nodeV y aa2 an2 ac2 ka2 kn2 kc2] w fun e w' => e = .returned (.bool (Dom.oneB (Dom.sameB d) x y)) ∧ Below w.heap.size w w' := by
  have hv : Dom.oneB (Dom.sameB d) x y = false := by
    unfold Dom.oneB
    rw [if_neg (fun h => h hk), if_neg (by omega), if_pos h1, decide_eq_false (fun h => hl (by rw [← ha1.1, ← ha2.1, h.2.2])), Bool.false_and]
  rw [hv]
  clear hv
  have t0 : ((x.kind : Int) != (y.kind : Int)) = false := by simp [hk]
  have t0' : ((y.kind : Int) != (y.kind : Int)) = false := by simp
  have e1 : ((x.kind : Int) == 1) = true := by simp; omega
  have e2 : ((x.kind : Int) == 2) = false := by simp; omega
  have e3 : ((x.kind : Int) == 3) = false := by simp; omega
  have s0 : ((x.space : Int) != (y.space : Int)) = false := by simp [hs]
  have m1 : ((bs x.name).toList == (bs y.name).toList) = true := by rw [bs_eqb, decide_eq_true hn]
  have m0 : (bs x.name).toList = (bs y.name).toList := by rw [hn]
  have l0 : ((an1 : Int) != (an2 : Int)) = true := by simp; omega
  clear hk h1 hs hn hl t0'
  unfold nodeV
  clear IH ha1 ha2 hk1 hk2 hw1 hw2
  generalize bs x.name = N1 at *
  generalize bs y.name = N2 at *
  generalize bs x.text = T1 at *
  generalize bs y.text = T2 at *
  generalize x.kind = K1 at *
  generalize y.kind = K2 at *
  generalize x.space = P1 at *
  generalize y.space = P2 at *
  go_enter Try.func57, Try.ntmps57
  go_wp2
  go_ret
  exact ⟨by first | rfl | simp, ((Below.refl _ w).alloc (Nat.le_refl _) _).alloc (by simp) _⟩
set_option maxHeartbeats 8000000 in
theorem one_atts (d : Nat) (IH : RSameC d) (S1 S2 : Nat → Prop) (x y : Dom.N) (aa1 : Option Addr) (an1 ac1 : Nat) (ka1 : Option Addr) (kn1 kc1 : Nat) (aa2 : Option Addr) (an2 ac2 : Nat) (ka2 : Option Addr) (kn2 kc2 : Nat) (w : World) (ha1 : IsA w aa1 an1 x.atts) (ha2 : IsA w aa2 an2 y.atts) (hn1 : an1 ≤ 4000000000) (hn2 : an2 ≤ 4000000000) (hk1 : IsN S1 d w ka1 kn1 x.kids) (hk2 : IsN S2 d w ka2 kn2 y.kids) (hw1 : Dom.sumW d x.kids ≤ 1000000000) (hw2 : Dom.sumW d y.kids ≤ 1000000000) (hk : x.kind = y.kind) (h1 : x.kind = 1) (hs : x.space = y.space) (hn : x.name = y.name) (hl : an1 = an2) :
    Calls Try.prog 57 #[nodeV x aa1 an1 ac1 ka1 kn1 kc1, nodeV y aa2 an2 ac2 ka2 kn2 kc2] w fun e w' => e = .returned (.bool (Dom.oneB (Dom.sameB d) x y)) ∧ Below w.heap.size w w' := by
  subst hl
  obtain ⟨z, hz⟩ : ∃ z, Dom.oneB (Dom.sameB d) x y = z := ⟨_, rfl⟩
  have hv : z = (decide (x.atts = y.atts) && Dom.sameB d x.kids y.kids) := by
    rw [← hz]
    unfold Dom.oneB
    rw [if_neg (fun h => h hk), if_neg (by omega), if_pos h1]
    congr 1
    simp [hs, hn]
  rw [hz]
  have HV := hid hv
  have HIH := hid IH
  have HW1 := hid hw1
  have HW2 := hid hw2
  have d0 : ((an1 : Int) != (an1 : Int)) = false := by simp
  have t0 : ((x.kind : Int) != (x.kind : Int)) = false := by simp
  have s0 : ((x.space : Int) != (x.space : Int)) = false := by simp
  have e1 : ((x.kind : Int) == 1) = true := by simp; omega
  have e2 : ((x.kind : Int) == 2) = false := by simp; omega
  have e3 : ((x.kind : Int) == 3) = false := by simp; omega
  unfold nodeV
  rw [← hk, ← hs, ← hn]
  generalize bs x.name = NM at *
  generalize bs x.text = T1 at *
  generalize bs y.text = T2 at *
  generalize x.kind = K at *
  generalize x.space = SP at *
  have b0 : Below w.heap.size w ((w.alloc (.cells #[.int .u8 K, .int .u8 SP, .string NM, .slice aa1 an1 ac1, .string T1, .slice ka1 kn1 kc1] 32)).alloc (.cells #[.int .u8 K, .int .u8 SP, .string NM, .slice aa2 an1 ac2, .string T2, .slice ka2 kn2 kc2] 32)) := ((Below.refl _ w).alloc (Nat.le_refl _) _).alloc (by simp) _
  have HH := hid (ha1.below b0)
  have HG := hid (ha2.below b0)
  have HK1 := hid (hk1.below b0)
  have HK2 := hid (hk2.below b0)
  have Q1 := (BlkW.new w #[.int .u8 K, .int .u8 SP, .string NM, .slice aa1 an1 ac1, .string T1, .slice ka1 kn1 kc1] 32).alloc (.cells #[.int .u8 K, .int .u8 SP, .string NM, .slice aa2 an1 ac2, .string T2, .slice ka2 kn2 kc2] 32)
  have Q2 := BlkW.new (w.alloc (.cells #[.int .u8 K, .int .u8 SP, .string NM, .slice aa1 an1 ac1, .string T1, .slice ka1 kn1 kc1] 32)) #[.int .u8 K, .int .u8 SP, .string NM, .slice aa2 an1 ac2, .string T2, .slice ka2 kn2 kc2] 32
  rw [World.size_alloc] at Q2
  have HL1 := hid ha1.1
  have HL2 := hid ha2.1
  have HB0 := hid b0
  obtain ⟨W, hW⟩ : ∃ W, (w.alloc (.cells #[.int .u8 K, .int .u8 SP, .string NM, .slice aa1 an1 ac1, .string T1, .slice ka1 kn1 kc1] 32)).alloc (.cells #[.int .u8 K, .int .u8 SP, .string NM, .slice aa2 an1 ac2, .string T2, .slice ka2 kn2 kc2] 32) = W := ⟨_, rfl⟩
  rw [hW] at HH HG HK1 HK2 Q1 Q2 HB0
  have HQ1 := hid Q1
  have HQ2 := hid Q2
  have HWW := hid hW
  clear IH ha1 ha2 hk1 hk2 hw1 hw2 hv hz hk h1 hs hn b0 hW Q1 Q2
  go_enter Try.func57, Try.ntmps57
  go_wp2
  rw [HWW.out]
  go_loopg [5] an1 (fun g iv wr => ∃ k : Nat, k + g = an1 ∧ iv = .int .i64 k ∧ Hid (x.atts.take k = y.atts.take k) ∧ Below W.heap.size W wr)
  case atStart => exact ⟨0, by omega, rfl, hid rfl, Below.refl _ _⟩
  case round =>
    obtain ⟨k, hk, rfl, hI, hb⟩ := hrel
    have HBn := hid (HB0.out.trans (hb.mono HB0.out.size))
    have q3 := (HQ1.out.below hb HQ1.out.lt).cell 3
    have q5 := (HQ1.out.below hb HQ1.out.lt).cell 5
    have r3 := (HQ2.out.below hb HQ2.out.lt).cell 3
    have r5 := (HQ2.out.below hb HQ2.out.lt).cell 5
    simp only [List.getElem?_toArray, List.getElem?_cons_zero, List.getElem?_cons_succ] at q3 q5 r3 r5
    by_cases hlt : k < an1
    · have d1 : decide (k < an1) = true := decide_eq_true hlt
      have hltI : (k : Int) < (an1 : Int) := by omega
      obtain ⟨_, z0 | ⟨b1, o1, rfl, hat⟩⟩ := HH.out.below hb
      · omega
      obtain ⟨_, z0 | ⟨b2, o2, rfl, hau⟩⟩ := HG.out.below hb
      · omega
      obtain ⟨⟨p, q⟩, hx⟩ : ∃ u, x.atts[k]? = some u := ⟨_, List.getElem?_eq_getElem (by have := HL1.out; omega)⟩
      obtain ⟨⟨p', q'⟩, hy⟩ : ∃ u, y.atts[k]? = some u := ⟨_, List.getElem?_eq_getElem (by have := HL2.out; omega)⟩
      obtain ⟨e4, e5⟩ := hat k _ hx
      obtain ⟨f4, f5⟩ := hau k _ hy
      simp only at e4 e5 f4 f5
      by_cases he : p = p'
      · by_cases hf : q = q'
        · have HN := hid (take_more hI.out hx (by rw [he, hf]; exact hy))
          rw [← he] at f4
          rw [← hf] at f5
          generalize bs p = X at *
          generalize bs q = Y at *
          clear he hf hx hy hat hau hI
          go_wp2
          go_region
          go_wp2
          go_roundg (an1 - (k + 1))
          case measure => omega
          case rel => exact ⟨k + 1, by omega, by go_num, HN, bel_drewN hb 1⟩
        · have HR := hid (show z = false by rw [HV.out, decide_eq_false (get_ne hx hy fun e => hf (congrArg Prod.snd e)), Bool.false_and])
          have g0 : ¬ (bs q).toList = (bs q').toList := fun e => hf (bs_inj e)
          rw [← he] at f4
          generalize bs p = X at *
          generalize bs q = Y at *
          generalize bs q' = Y' at *
          clear he hf hx hy hat hau hI
          go_wp2
          go_region
          go_wp2
          go_ret
          exact ⟨ret_bool' HR.out.symm, bel_drewN HBn.out 1⟩
      · have HR := hid (show z = false by rw [HV.out, decide_eq_false (get_ne hx hy fun e => he (congrArg Prod.fst e)), Bool.false_and])
        have g0 : ¬ (bs p).toList = (bs p').toList := fun e => he (bs_inj e)
        generalize bs p = X at *
        generalize bs p' = X' at *
        generalize bs q = Y at *
        generalize bs q' = Y' at *
        clear he hx hy hat hau hI
        go_wp2
        go_region
        go_wp2
        go_ret
        exact ⟨ret_bool' HR.out.symm, bel_drewN HBn.out 1⟩
    · have d1 : decide (k < an1) = false := decide_eq_false hlt
      have hltI : ¬ (k : Int) < (an1 : Int) := by omega
      have HR := hid (show z = Dom.sameB d x.kids y.kids by rw [HV.out, decide_eq_true (take_all hI.out HL1.out HL2.out hlt), Bool.true_and])
      have SK := hid (HIH.out S1 S2 x.kids y.kids ka1 kn1 kc1 ka2 kn2 kc2 wr (HK1.out.below hb) (HK2.out.below hb) HW1.out HW2.out)
      clear hI
      go_wp2_with fail
      refine SK.out.mono ?_
      rintro e w4 ⟨rfl, b4⟩
      have HB4 := hid (HBn.out.trans (b4.mono HBn.out.size))
      clear b4
      go_wp2
      go_ret
      exact ⟨by rw [HR.out]; first | done | rfl, HB4.out⟩
set_option maxHeartbeats 8000000 in
theorem one_any (d : Nat) (IH : RSameC d) (S1 S2 : Nat → Prop) (x y : Dom.N) (aa1 : Option Addr) (an1 ac1 : Nat) (ka1 : Option Addr) (kn1 kc1 : Nat) (aa2 : Option Addr) (an2 ac2 : Nat) (ka2 : Option Addr) (kn2 kc2 : Nat) (w : World) (ha1 : IsA w aa1 an1 x.atts) (ha2 : IsA w aa2 an2 y.atts) (hn1 : an1 ≤ 4000000000) (hn2 : an2 ≤ 4000000000) (hk1 : IsN S1 d w ka1 kn1 x.kids) (hk2 : IsN S2 d w ka2 kn2 y.kids) (hw1 : Dom.sumW d x.kids ≤ 1000000000) (hw2 : Dom.sumW d y.kids ≤ 1000000000) :
    Calls Try.prog 57 #[nodeV x aa1 an1 ac1 ka1 kn1 kc1, nodeV y aa2 an2 ac2 ka2 kn2 kc2] w fun e w' => e = .returned (.bool (Dom.oneB (Dom.sameB d) x y)) ∧ Below w.heap.size w w' := by
  by_cases hk : x.kind = y.kind
  · by_cases h2 : x.kind = 2
    · exact one_text2 d IH S1 S2 x y aa1 an1 ac1 ka1 kn1 kc1 aa2 an2 ac2 ka2 kn2 kc2 w ha1 ha2 hn1 hn2 hk1 hk2 hw1 hw2 hk h2
    by_cases h3 : x.kind = 3
    · exact one_text3 d IH S1 S2 x y aa1 an1 ac1 ka1 kn1 kc1 aa2 an2 ac2 ka2 kn2 kc2 w ha1 ha2 hn1 hn2 hk1 hk2 hw1 hw2 hk h3
    by_cases h1 : x.kind = 1
    · by_cases hs : x.space = y.space
      · by_cases hn : x.name = y.name
        · by_cases hl : an1 = an2
          · exact one_atts d IH S1 S2 x y aa1 an1 ac1 ka1 kn1 kc1 aa2 an2 ac2 ka2 kn2 kc2 w ha1 ha2 hn1 hn2 hk1 hk2 hw1 hw2 hk h1 hs hn hl
          · exact one_len d IH S1 S2 x y aa1 an1 ac1 ka1 kn1 kc1 aa2 an2 ac2 ka2 kn2 kc2 w ha1 ha2 hn1 hn2 hk1 hk2 hw1 hw2 hk h1 hs hn hl
        · exact one_name d IH S1 S2 x y aa1 an1 ac1 ka1 kn1 kc1 aa2 an2 ac2 ka2 kn2 kc2 w ha1 ha2 hn1 hn2 hk1 hk2 hw1 hw2 hk h1 hs hn
      · exact one_space d IH S1 S2 x y aa1 an1 ac1 ka1 kn1 kc1 aa2 an2 ac2 ka2 kn2 kc2 w ha1 ha2 hn1 hn2 hk1 hk2 hw1 hw2 hk h1 hs
    · exact one_none d IH S1 S2 x y aa1 an1 ac1 ka1 kn1 kc1 aa2 an2 ac2 ka2 kn2 kc2 w ha1 ha2 hn1 hn2 hk1 hk2 hw1 hw2 hk h1 h2 h3
  · exact one_kind d IH S1 S2 x y aa1 an1 ac1 ka1 kn1 kc1 aa2 an2 ac2 ka2 kn2 kc2 w ha1 ha2 hn1 hn2 hk1 hk2 hw1 hw2 hk
end Go.Proofs.Ythbklcpjbeelhaa
