/- slices.Backward, of marks and of open elements: it hands out the elements, the last one first, until it is told to stop. Written by tools/gen_markit.py. -/
import Derived.Test.YtmgbjkekfejnfaaRangeJ
import Derived.Test.YtmgbjkekfejnfaaMarkM
import Derived.Test.YtmgbjkekfejnfaaElem
namespace Go.Proofs.Ytmgbjkekfejnfaa
open Go.RowKit Go.Lib
set_option maxRecDepth 100000
set_option linter.unusedVariables false

/-- How far it is still to go. -/
def downM (p : Value) : Nat := match p with
  | .int _ x => (x + 1).toNat
  | _ => 0
theorem mbackward_any (a : Option Addr) (len cap : Nat) (w : World) :
    Calls Try.prog 28 #[.slice a len cap] w fun e w' => e = .returned (.func (.func 35) #[] #[.pointer (some ⟨w.heap.size, 0, none⟩)]) ∧ w' = w.alloc (.cells #[.slice a len cap] 22) := by
  go_enter Try.func28, Try.ntmps28
  go_wp2
  go_ret
  exact ⟨rfl, rfl⟩
set_option maxHeartbeats 8000000 in
theorem mbacks_any (a : Option Addr) (len cap : Nat) (rs : List MR) (w : World) (h : RowM w a len rs) (hl : len ≤ 4294967296) (L : Nat) (pb : Addr) (J : Nat → World → Prop) (E : World → Prop)
    (hJ : ∀ k W, J k W → Below w.heap.size w W ∧ W.cell? pb = some (.slice a len cap))
    (hY : ∀ (k : Nat) (r : MR) (W : World), rs[k]? = some r → J (k + 1) W → YieldAt Fence.wide (2 - 1) Try.prog L #[.int .i64 k, .agg #[.int .i64 r.id, .string (bs r.name), .slice r.aa r.an r.ac]] W fun e W' => (e = .returned (.bool true) ∧ J k W') ∨ (e = .returned (.bool false) ∧ E W'))
    (W0 : World) (hJ0 : J len W0) :
    CallsIn Fence.wide 2 Try.prog 35 #[.func (.yield L) #[] #[], .pointer (some pb)] W0 fun e W' => (∃ v, e = .returned v) ∧ (J 0 W' ∨ E W') := by
  have HY := hid hY
  have HH := hid h
  have HJJ := hid hJ
  have q0 := (hJ _ _ hJ0).2
  have HJ0 := hid hJ0
  clear hY hJ0 h hJ
  refine callsIn_of_wp Try.func35 rfl trivial ?_ rfl
  simp only [Try.ntmps35, List.size_toArray, List.length_cons, List.length_nil, Nat.reduceAdd, Nat.reduceSub, Array.replicate_succ, Array.replicate_zero, List.push_toArray, List.append_toArray, List.nil_append, List.cons_append]
  gi_wp2
  gi_loopw [3] (fun p wr => ∃ (k : Nat), p = .int .i64 ((k : Int) - 1) ∧ k ≤ len ∧ Hid (J k wr)) (fun p _ => downM p)
  case atStart => exact ⟨len, by go_num, Nat.le_refl _, HJ0⟩
  case round =>
    clear HJ0 q0
    obtain ⟨kk, rfl, hkk, hVx⟩ := hrel
    by_cases h0 : kk = 0
    · subst h0
      have HD : Hid (J 0 wr ∨ E wr) := hid (.inl hVx.out)
      gi_wp2
      go_end0
      exact ⟨⟨_, rfl⟩, HD.out⟩
    · obtain ⟨k, rfl⟩ : ∃ k, kk = k + 1 := ⟨kk - 1, by omega⟩
      have d0 : decide ((0 : Int) ≤ (k : Int)) = true := decide_eq_true (by omega)
      obtain ⟨hb, t0⟩ := HJJ.out _ _ hVx.out
      obtain ⟨hll, h9 | ⟨blk, off, rfl, hat⟩⟩ := HH.out
      · omega
      obtain ⟨r, hr⟩ : ∃ r, rs[k]? = some r := ⟨_, List.getElem?_eq_getElem (by omega)⟩
      obtain ⟨x0, x1, x2⟩ := hat k r hr
      have c0 := cell_up x0 hb
      have c1 := cell_up x1 hb
      have c2 := cell_up x2 hb
      have HX := hid (HY.out k r wr hr hVx.out)
      clear x0 x1 x2 hat hr hll
      have kk1 : ((k + 1 : Nat) : Int) - 1 = (k : Int) := by omega
      rw [kk1]
      have hkl : (k : Int) < (len : Int) := by omega
      have hkl2 : k < len := by omega
      obtain ⟨fn, tmps, assign, body, hy, hR⟩ := HX.out
      clear HX hb
      gi_wp2
      refine hR.mono ?_
      rintro e W3 (⟨rfl, hV3⟩ | ⟨rfl, hE3⟩)
      · have HV3 := hid hV3
        clear hV3 hVx hy hR c0 c1 c2 t0
        gi_wp2
        go_roundw
        case rel => exact ⟨k, by go_num, by omega, HV3⟩
        case measure => simp [downM]
      · have HD : Hid (J 0 W3 ∨ E W3) := hid (.inr hE3)
        clear hE3 hVx hy hR c0 c1 c2 t0
        gi_wp2
        refine bodyPost_ret (results_none rfl _ _ _) rfl ?_
        exact ⟨⟨_, rfl⟩, HD.out⟩
theorem obackward_any (a : Option Addr) (len cap : Nat) (w : World) :
    Calls Try.prog 32 #[.slice a len cap] w fun e w' => e = .returned (.func (.func 36) #[] #[.pointer (some ⟨w.heap.size, 0, none⟩)]) ∧ w' = w.alloc (.cells #[.slice a len cap] 32) := by
  go_enter Try.func32, Try.ntmps32
  go_wp2
  go_ret
  exact ⟨rfl, rfl⟩
set_option maxHeartbeats 8000000 in
theorem obacks_any (a : Option Addr) (len cap : Nat) (l : List Opn.E) (w : World) (h : IsE w a len l) (hl : len ≤ 4294967296) (L : Nat) (pb : Addr) (J : Nat → World → Prop) (E : World → Prop)
    (hJ : ∀ k W, J k W → Below w.heap.size w W ∧ W.cell? pb = some (.slice a len cap))
    (hY : ∀ (k : Nat) (x : Opn.E) (W : World), l[k]? = some x → J (k + 1) W → YieldAt Fence.wide (2 - 1) Try.prog L #[.int .i64 k, .agg #[.int .i64 x.id, .int .u8 x.space, .string (bs x.name), .int .u8 x.point]] W fun e W' => (e = .returned (.bool true) ∧ J k W') ∨ (e = .returned (.bool false) ∧ E W'))
    (W0 : World) (hJ0 : J len W0) :
    CallsIn Fence.wide 2 Try.prog 36 #[.func (.yield L) #[] #[], .pointer (some pb)] W0 fun e W' => (∃ v, e = .returned v) ∧ (J 0 W' ∨ E W') := by
  have HY := hid hY
  have HH := hid h
  have HJJ := hid hJ
  have q0 := (hJ _ _ hJ0).2
  have HJ0 := hid hJ0
  clear hY hJ0 h hJ
  refine callsIn_of_wp Try.func36 rfl trivial ?_ rfl
  simp only [Try.ntmps36, List.size_toArray, List.length_cons, List.length_nil, Nat.reduceAdd, Nat.reduceSub, Array.replicate_succ, Array.replicate_zero, List.push_toArray, List.append_toArray, List.nil_append, List.cons_append]
  gi_wp2
  gi_loopw [3] (fun p wr => ∃ (k : Nat), p = .int .i64 ((k : Int) - 1) ∧ k ≤ len ∧ Hid (J k wr)) (fun p _ => downM p)
  case atStart => exact ⟨len, by go_num, Nat.le_refl _, HJ0⟩
  case round =>
    clear HJ0 q0
    obtain ⟨kk, rfl, hkk, hVx⟩ := hrel
    by_cases h0 : kk = 0
    · subst h0
      have HD : Hid (J 0 wr ∨ E wr) := hid (.inl hVx.out)
      gi_wp2
      go_end0
      exact ⟨⟨_, rfl⟩, HD.out⟩
    · obtain ⟨k, rfl⟩ : ∃ k, kk = k + 1 := ⟨kk - 1, by omega⟩
      have d0 : decide ((0 : Int) ≤ (k : Int)) = true := decide_eq_true (by omega)
      obtain ⟨hb, t0⟩ := HJJ.out _ _ hVx.out
      obtain ⟨hll, h9 | ⟨blk, off, rfl, hat⟩⟩ := HH.out
      · omega
      obtain ⟨x, hx⟩ : ∃ x, l[k]? = some x := ⟨_, List.getElem?_eq_getElem (by omega)⟩
      obtain ⟨x0, x1, x2, x3⟩ := hat k x hx
      have c0 := cell_up x0 hb
      have c1 := cell_up x1 hb
      have c2 := cell_up x2 hb
      have c3 := cell_up x3 hb
      have HX := hid (HY.out k x wr hx hVx.out)
      clear x0 x1 x2 x3 hat hx hll
      have kk1 : ((k + 1 : Nat) : Int) - 1 = (k : Int) := by omega
      rw [kk1]
      have hkl : (k : Int) < (len : Int) := by omega
      have hkl2 : k < len := by omega
      obtain ⟨fn, tmps, assign, body, hy, hR⟩ := HX.out
      clear HX hb
      gi_wp2
      refine hR.mono ?_
      rintro e W3 (⟨rfl, hV3⟩ | ⟨rfl, hE3⟩)
      · have HV3 := hid hV3
        clear hV3 hVx hy hR c0 c1 c2 c3 t0
        gi_wp2
        go_roundw
        case rel => exact ⟨k, by go_num, by omega, HV3⟩
        case measure => simp [downM]
      · have HD : Hid (J 0 W3 ∨ E W3) := hid (.inr hE3)
        clear hE3 hVx hy hR c0 c1 c2 c3 t0
        gi_wp2
        refine bodyPost_ret (results_none rfl _ _ _) rfl ?_
        exact ⟨⟨_, rfl⟩, HD.out⟩
end Go.Proofs.Ytmgbjkekfejnfaa
