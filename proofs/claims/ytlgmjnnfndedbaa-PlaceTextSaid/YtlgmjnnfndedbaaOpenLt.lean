/- Walks over the program's package open: the walk from the current element outwards, for each closure that stops it. Written by tools/gen_openlast.py. -/
import Derived.Test.YtlgmjnnfndedbaaRangeL
import Derived.Test.YtlgmjnnfndedbaaOpenCl
import Derived.Test.YtlgmjnnfndedbaaOpenIn
import Derived.Test.YtlgmjnnfndedbaaMarkM
namespace Go.Proofs.Ytlgmjnnfndedbaa
open Go.RowKit Go.Lib
set_option maxRecDepth 100000
set_option linter.unusedVariables false

/-- What lies in memory while 'last' looks: what stops it, its answer, the list; then the loop. -/
structure LoopB (w : World) (r : Loop) (fv sv : Value) (res : Int) (W : World) : Prop where
  rcd : W.heap[w.heap.size + 4]? = some (.loop r)
  dfr : W.heap[w.heap.size + 3]? = some (.deferred (some []))
  bf : BlkW W w.heap.size #[fv] 75
  br : BlkW W (w.heap.size + 1) #[.int .i64 res] 3
  bl : BlkW W (w.heap.size + 2) #[sv] 43
  below : Below w.heap.size w W
theorem LoopB.busy {w W : World} {r : Loop} {fv sv : Value} {res : Int} (h : LoopB w r fv sv res W) (r' : Loop) : LoopB w r' fv sv res (W.putObj (w.heap.size + 4) (.loop r')) := by
  have k : ∀ b, b ≠ w.heap.size + 4 → (W.putObj (w.heap.size + 4) (.loop r')).heap[b]? = W.heap[b]? := fun b hb => World.putObj_heap_other hb
  exact ⟨World.putObj_heap_same (Array.getElem?_eq_some_iff.1 h.rcd).1, (k _ (by omega)).trans h.dfr, (k _ (by omega)).trans h.bf, (k _ (by omega)).trans h.br, (k _ (by omega)).trans h.bl,
    h.below.grown (grownBy_putObj' W (w.heap.size + 4) (.loop r')) h.below.size (fun k e => by cases e; omega)⟩
theorem LoopB.answer {w W : World} {r : Loop} {fv sv : Value} {res : Int} (h : LoopB w r fv sv res W) (b : Int) : LoopB w r fv sv b (W.setCell ⟨w.heap.size + 1, 0, none⟩ (.int .i64 b)) := by
  have k : ∀ c, c ≠ w.heap.size + 1 → (W.setCell ⟨w.heap.size + 1, 0, none⟩ (.int .i64 b)).heap[c]? = W.heap[c]? := fun c hc => Below.heap_setCell _ _ _ _ hc
  exact ⟨(k _ (by omega)).trans h.rcd, (k _ (by omega)).trans h.dfr, (k _ (by omega)).trans h.bf, h.br.set_ 0 _, (k _ (by omega)).trans h.bl, h.below.setCell (p := ⟨w.heap.size + 1, 0, none⟩) (by show w.heap.size ≤ w.heap.size + 1; omega) _⟩
theorem LoopB.up {w W W' : World} {r : Loop} {fv sv : Value} {res : Int} (h : LoopB w r fv sv res W) (hb : Below W.heap.size W W') : LoopB w r fv sv res W' := by
  have z := (Array.getElem?_eq_some_iff.1 h.rcd).1
  have k : ∀ b, b ≤ w.heap.size + 4 → W'.heap[b]? = W.heap[b]? := fun b hb' => hb.block b (by omega)
  exact ⟨(k _ (by omega)).trans h.rcd, (k _ (by omega)).trans h.dfr, (k _ (by omega)).trans h.bf, (k _ (by omega)).trans h.br, (k _ (by omega)).trans h.bl, h.below.trans (hb.mono h.below.size)⟩
/-- How far it is still to go. -/
def dnM (p : Value) : Nat := match p with
  | .int _ x => (x + 1).toNat
  | _ => 0
theorem pbackward_any (a : Option Addr) (len cap : Nat) (w : World) :
    Calls Try.prog 78 #[.slice a len cap] w fun e w' => e = .returned (.func (.func 91) #[] #[.pointer (some ⟨w.heap.size, 0, none⟩)]) ∧ w' = w.alloc (.cells #[.slice a len cap] 43) := by
  go_enter Try.func78, Try.ntmps78
  go_wp2
  go_ret
  exact ⟨rfl, rfl⟩
set_option maxHeartbeats 8000000 in
/-- It hands out the elements, the last one first, until it is told to stop. -/
theorem pbacks_any (a : Option Addr) (len cap : Nat) (l : List Opn.E) (w : World) (r : Loop) (fv : Value) (R : Int) (h : IsE w a len l) (hl : len ≤ 4294967296) (V : Nat → Prop) (hV0 : V len)
    (hY : ∀ (k : Nat) (x : Opn.E) (W : World), l[k]? = some x → LoopB w r fv (.slice a len cap) 0 W → V (k + 1) → YieldAt Fence.wide (2 - 1) Try.prog (w.heap.size + 4) #[.int .i64 k, .agg #[.int .i64 x.id, .int .u8 x.space, .string (bs x.name), .int .u8 x.point]] W fun e W' => (e = .returned (.bool true) ∧ LoopB w r fv (.slice a len cap) 0 W' ∧ V k) ∨ (e = .returned (.bool false) ∧ LoopB w (leftR r) fv (.slice a len cap) R W'))
    (W0 : World) (hJ0 : LoopB w r fv (.slice a len cap) 0 W0) :
    CallsIn Fence.wide 2 Try.prog 91 #[.func (.yield (w.heap.size + 4)) #[] #[], .pointer (some ⟨w.heap.size + 2, 0, none⟩)] W0 fun e W' => (∃ v, e = .returned v) ∧ ((LoopB w r fv (.slice a len cap) 0 W' ∧ V 0) ∨ LoopB w (leftR r) fv (.slice a len cap) R W') := by
  have HY := hid hY
  have HH := hid h
  have q0 := hJ0.bl.cell 0
  simp only [List.getElem?_toArray, List.getElem?_cons_zero] at q0
  have HJ0 := hid hJ0
  have HV := hid hV0
  clear hY hJ0 h hV0
  refine callsIn_of_wp Try.func91 rfl trivial ?_ rfl
  simp only [Try.ntmps91, List.size_toArray, List.length_cons, List.length_nil, Nat.reduceAdd, Nat.reduceSub, Array.replicate_succ, Array.replicate_zero, List.push_toArray, List.append_toArray, List.nil_append, List.cons_append]
  gi_wp2
  gi_loopw [3] (fun p wr => ∃ (k : Nat), p = .int .i64 ((k : Int) - 1) ∧ k ≤ len ∧ Hid (V k) ∧ Hid (LoopB w r fv (.slice a len cap) 0 wr)) (fun p _ => dnM p)
  case atStart => exact ⟨len, by go_num, Nat.le_refl _, HV, HJ0⟩
  case round =>
    clear HJ0 q0
    obtain ⟨kk, rfl, hkk, hVx, hJ⟩ := hrel
    by_cases h0 : kk = 0
    · subst h0
      have HD : Hid ((LoopB w r fv (.slice a len cap) 0 wr ∧ V 0) ∨ LoopB w (leftR r) fv (.slice a len cap) R wr) := hid (.inl ⟨hJ.out, hVx.out⟩)
      gi_wp2
      go_end0
      exact ⟨⟨_, rfl⟩, HD.out⟩
    · obtain ⟨k, rfl⟩ : ∃ k, kk = k + 1 := ⟨kk - 1, by omega⟩
      have d0 : decide ((0 : Int) ≤ (k : Int)) = true := decide_eq_true (by omega)
      obtain ⟨hll, h0 | ⟨blk, off, rfl, hat⟩⟩ := HH.out
      · omega
      obtain ⟨x, hx⟩ : ∃ x, l[k]? = some x := ⟨_, List.getElem?_eq_getElem (by omega)⟩
      obtain ⟨x0, x1, x2, x3⟩ := hat k x hx
      have hb := hJ.out.below
      have c0 := cell_up x0 hb
      have c1 := cell_up x1 hb
      have c2 := cell_up x2 hb
      have c3 := cell_up x3 hb
      have t0 := hJ.out.bl.cell 0
      simp only [List.getElem?_toArray, List.getElem?_cons_zero] at t0
      have HAT := hid hat
      clear x0 x1 x2 x3 hat hb
      have kk1 : ((k + 1 : Nat) : Int) - 1 = (k : Int) := by omega
      rw [kk1]
      have hkl : (k : Int) < (len : Int) := by omega
      have hkl2 : k < len := by omega
      obtain ⟨fn, tmps, assign, body, hy, hR⟩ := HY.out k x wr hx hJ.out hVx.out
      clear hx
      gi_wp2
      refine hR.mono ?_
      rintro e W3 (⟨rfl, hJ3, hV3⟩ | ⟨rfl, hJ3⟩)
      · have HJ3 := hid hJ3
        have HV3 := hid hV3
        clear hJ3 hV3 hJ hVx hy hR c0 c1 c2 c3 t0
        gi_wp2
        go_roundw
        case rel => exact ⟨k, by go_num, by omega, HV3, HJ3⟩
        case measure => simp [dnM]
      · have HD : Hid ((LoopB w r fv (.slice (some ⟨blk, off, none⟩) len cap) 0 W3 ∧ V 0) ∨ LoopB w (leftR r) fv (.slice (some ⟨blk, off, none⟩) len cap) R W3) := hid (.inr hJ3)
        clear hJ3 hJ hVx hy hR c0 c1 c2 c3 t0
        gi_wp2
        refine bodyPost_ret (results_none rfl _ _ _) rfl ?_
        exact ⟨⟨_, rfl⟩, HD.out⟩
attribute [local go_sem] Oper.semAt_some
set_option maxHeartbeats 8000000 in
theorem last_until (a : Option Addr) (len cap : Nat) (l : List Opn.E) (st : Opn.E → Bool) (p0 : Addr) (w : World) (h : IsE w a len l) (hl : len ≤ 4294967296)
    (hC : ∀ (x : Opn.E) (W : World), x ∈ l → Below w.heap.size w W → Calls Try.prog 83 #[.agg #[.int .i64 x.id, .int .u8 x.space, .string (bs x.name), .int .u8 x.point], .pointer (some p0)] W fun e W' => e = .returned (.bool (st x)) ∧ Below W.heap.size W W') :
    Calls Try.prog 82 #[.slice a len cap, .func (.func 83) #[] #[.pointer (some p0)]] w fun e w' => e = .returned (.int .i64 (Opn.lastI st l len)) ∧ Below w.heap.size w w' := by
  obtain ⟨R, hR⟩ : ∃ R, Opn.lastI st l len = R := ⟨_, rfl⟩
  rw [hR]
  have HC := hid hC
  have HH := hid h
  have HR := hid hR
  clear hC h hR
  obtain ⟨fv, hfv⟩ : ∃ fv : Value, fv = .func (.func 83) #[] #[.pointer (some p0)] := ⟨_, rfl⟩
  obtain ⟨W1, hW1⟩ : ∃ W1, (w.alloc (.cells #[.func (.func 83) #[] #[.pointer (some p0)]] 75)).alloc (.cells #[.int .i64 0] 3) = W1 := ⟨_, rfl⟩
  have b1 : Below w.heap.size w W1 := by rw [← hW1]; exact ((Below.refl _ w).alloc (Nat.le_refl _) _).alloc (by simp) _
  have s1 : W1.heap.size = w.heap.size + 2 := by rw [← hW1]; simp
  have B0 : BlkW W1 w.heap.size #[fv] 75 := by rw [← hW1, hfv]; exact (BlkW.new w _ _).alloc _
  have B1 : BlkW W1 (w.heap.size + 1) #[.int .i64 0] 3 := by
    rw [← hW1]
    have := BlkW.new (w.alloc (.cells #[.func (.func 83) #[] #[.pointer (some p0)]] 75)) #[.int .i64 0] 3
    rwa [World.size_alloc] at this
  have HB0 := hid B0
  have HB1 := hid B1
  have Hb1 := hid b1
  have Hs1 := hid s1
  have HFV := hid hfv
  clear B0 B1 b1 s1 hfv
  refine (callsIn_wide (n := 3)).1 ?_
  refine callsIn_of_wp_marks Try.func82 rfl trivial ?_ rfl
  simp only [Try.ntmps82, List.size_toArray, List.length_cons, List.length_nil, Nat.reduceAdd, Nat.reduceSub, Array.replicate_succ, Array.replicate_zero, List.push_toArray, List.append_toArray, List.nil_append, List.cons_append]
  gi_wp2
  refine ⟨trivial, ?_⟩
  refine (callsIn_wide.2 (pbackward_any a len cap _)).mono ?_
  rintro e w' ⟨rfl, rfl⟩
  gi_wp2
  obtain ⟨W0, hW0⟩ : ∃ W0, W1.alloc (.cells #[.slice a len cap] 43) = W0 := ⟨_, rfl⟩
  have hs0 : W0.heap.size = w.heap.size + 3 := by rw [← hW0]; simp [Hs1.out]
  have C0 : BlkW W0 w.heap.size #[fv] 75 := by rw [← hW0]; exact HB0.out.alloc _
  have C1 : BlkW W0 (w.heap.size + 1) #[.int .i64 0] 3 := by rw [← hW0]; exact HB1.out.alloc _
  have C2 : BlkW W0 (w.heap.size + 2) #[.slice a len cap] 43 := by
    rw [← hW0]
    have := BlkW.new W1 #[.slice a len cap] 43
    rwa [Hs1.out] at this
  have cb : Below w.heap.size w W0 := by rw [← hW0]; exact Hb1.out.alloc Hb1.out.size _
  have es : W1.heap.size = w.heap.size + 2 := Hs1.out
  rw [hW0, es]
  clear hW0 HB0 HB1 Hb1 Hs1 es
  refine range_at2 (F := Fence.wide) rfl (fun h => by simp [Fence.wide] at h) (gf := 91) (lb := #[.pointer (some ⟨w.heap.size + 2, 0, none⟩)]) rfl trivial (enters_of Try.func91 (by kernel_rfl) rfl) fun fn _ => ?_
  rw [hs0]
  generalize hr : recOf _ _ _ _ _ _ LoopState.ready = r
  have hY : ∀ (k : Nat) (x : Opn.E) (W : World), l[k]? = some x → LoopB w r fv (.slice a len cap) 0 W → Opn.lastI st l (k + 1) = R → YieldAt Fence.wide (2 - 1) Try.prog (w.heap.size + 4) #[.int .i64 k, .agg #[.int .i64 x.id, .int .u8 x.space, .string (bs x.name), .int .u8 x.point]] W fun e W' => (e = .returned (.bool true) ∧ LoopB w r fv (.slice a len cap) 0 W' ∧ Opn.lastI st l k = R) ∨ (e = .returned (.bool false) ∧ LoopB w (leftR r) fv (.slice a len cap) R W') := by
    intro k x W hx hJ hV
    have hst : r.state = .ready := by rw [← hr]; rfl
    have hpe : r.pending = none := by rw [← hr]; rfl
    have hfn : Fence.wide.fn r.fn := trivial
    have ha := congrArg Loop.assign hr
    have hb := congrArg Loop.body hr
    have hpp := congrArg Loop.params hr
    have htm := congrArg Loop.tmps hr
    dsimp only [recOf] at ha hb hpp htm
    refine round_at2 hJ.rcd hst hpe (by rw [← hpp]; rfl) hfn ?_
    rw [← ha, ← hb, ← hpp, ← htm]
    clear ha hb hpp htm hr
    rw [Opn.lastI_step hx] at hV
    have HXM := hid (List.mem_of_getElem? hx)
    -- the element in a block of its own
    have A1 := hJ.up ((Below.refl W.heap.size W).alloc (Nat.le_refl _) (.cells #[.int .i64 x.id, .int .u8 x.space, .string (bs x.name), .int .u8 x.point] 36))
    have cE := BlkW.new W #[.int .i64 x.id, .int .u8 x.space, .string (bs x.name), .int .u8 x.point] 36
    have sE : W.heap.size ≠ w.heap.size + 4 := by
      have := (Array.getElem?_eq_some_iff.1 hJ.rcd).1
      omega
    gi_wp2
    refine ⟨A1.rcd, ?_⟩
    have J2 := A1.busy (busyR r)
    have cE2 : BlkW ((W.alloc (.cells #[.int .i64 x.id, .int .u8 x.space, .string (bs x.name), .int .u8 x.point] 36)).putObj (w.heap.size + 4) (.loop (busyR r))) W.heap.size #[.int .i64 x.id, .int .u8 x.space, .string (bs x.name), .int .u8 x.point] 36 := (World.putObj_heap_other sE).trans cE
    obtain ⟨W3, hW3⟩ : ∃ W3, (W.alloc (.cells #[.int .i64 x.id, .int .u8 x.space, .string (bs x.name), .int .u8 x.point] 36)).putObj (w.heap.size + 4) (.loop (busyR r)) = W3 := ⟨_, rfl⟩
    rw [hW3] at J2 cE2 ⊢
    have u0 := J2.bf.cell 0
    have e0 := cE2.cell 0
    have e1 := cE2.cell 1
    have e2 := cE2.cell 2
    have e3 := cE2.cell 3
    rw [HFV.out] at u0
    simp only [List.getElem?_toArray, List.getElem?_cons_zero, List.getElem?_cons_succ] at u0 e0 e1 e2 e3
    have HCX := hid (HC.out x W3 HXM.out J2.below)
    have HJ2 := hid J2
    have HV := hid hV
    obtain ⟨B, hB⟩ : ∃ B, W.heap.size = B := ⟨_, rfl⟩
    rw [hB] at e0 e1 e2 e3 ⊢
    clear hJ J2 A1 cE cE2 hW3 hV sE hB
    gi_wp2
    refine ⟨trivial, ?_⟩
    refine (callsIn_wide.2 HCX.out).mono ?_
    rintro e W4 ⟨rfl, b4⟩
    have J4 := HJ2.out.up b4
    have HJ4 := hid J4
    have HA4 := hid (J4.answer k)
    have u1 := J4.br.cell 0
    have u2 := J4.br.free 0
    simp only [List.getElem?_toArray, List.getElem?_cons_zero] at u1
    clear HCX HJ2 J4 e0 e1 e2 e3 u0
    cases hs : st x with
    | true =>
      rw [hs, if_pos rfl] at HV
      have HE := hid (show (k : Int) = R from HV.out)
      clear hs
      gi_wp2
      exact ⟨HA4.out.rcd, .inr ⟨rfl, by rw [← HE.out]; exact HA4.out.busy (leftR r)⟩⟩
    | false =>
      rw [hs, if_neg (by simp)] at HV
      clear hs
      gi_wp2
      exact ⟨HJ4.out.rcd, .inl ⟨rfl, HJ4.out.busy r, HV.out⟩⟩
  refine (pbacks_any a len cap l w r fv R HH.out hl (fun n => Opn.lastI st l n = R) HR.out hY _ ?_).mono ?_
  · have d1 := heap_alloc_new W0 (.deferred (some []))
    have d2 := heap_alloc_new (W0.alloc (.deferred (some []))) (.loop r)
    rw [World.size_alloc, hs0] at d2
    rw [hs0] at d1
    exact ⟨d2, (Below.heap_alloc _ _ _ (by rw [World.size_alloc]; omega)).trans d1, (C0.alloc _).alloc _, (C1.alloc _).alloc _, (C2.alloc _).alloc _, (cb.alloc cb.size _).alloc (cb.alloc cb.size _).size _⟩
  · rintro e W ⟨hv, ⟨hJ, hVx⟩ | hJ⟩
    · refine ⟨hv, .inl ⟨hJ.rcd, ?_⟩⟩
      generalize recOf _ _ _ _ _ _ LoopState.exhausted = rx
      have HA := hid (show (-1 : Int) = R from hVx)
      have J9 := hJ.busy rx
      change LoopB w rx fv (.slice a len cap) 0 (W.putObj (w.heap.size + 3 + 1) (.loop rx)) at J9
      obtain ⟨W9, hW9⟩ : ∃ W9, W.putObj (w.heap.size + 3 + 1) (.loop rx) = W9 := ⟨_, rfl⟩
      rw [hW9] at J9 ⊢
      have u1 := J9.br.cell 0
      have u2 := J9.br.free 0
      have J10 := J9.answer (-1)
      have HD := hid J10.dfr
      have HB := hid J10.below
      have u3 := J10.br.cell 0
      simp only [List.getElem?_toArray, List.getElem?_cons_zero] at u1 u3
      have u4 := (World.cell?_of_block (a := ⟨w.heap.size + 1, 0, none⟩) (World.putObj_heap_other (w := W9.setCell ⟨w.heap.size + 1, 0, none⟩ (.int .i64 (-1))) (o := .deferred none) (r := w.heap.size + 3) (k := w.heap.size + 1) (by omega))).trans u3
      clear hJ hY hr hVx hW9 J9 J10
      gi_wp2
      refine ⟨by simp, .inl ⟨_, _, rfl, run_takeDeferred HD.out, ?_⟩⟩
      refine ⟨.int .i64 (-1), by simp [results, Try.results82, go_sem, u4], ?_⟩
      exact ⟨by rw [HA.out], HB.out.grown (grownBy_putObj' _ _ _) HB.out.size (fun k e => by cases e; omega)⟩
    · refine ⟨hv, .inr ⟨hJ.rcd, ?_⟩⟩
      generalize ({ leftR r with state := LoopState.exhausted } : Loop) = rx
      have J9 := hJ.busy rx
      change LoopB w rx fv (.slice a len cap) R (W.putObj (w.heap.size + 3 + 1) (.loop rx)) at J9
      obtain ⟨W9, hW9⟩ : ∃ W9, W.putObj (w.heap.size + 3 + 1) (.loop rx) = W9 := ⟨_, rfl⟩
      rw [hW9] at J9 ⊢
      have u1 := J9.br.cell 0
      have HD := hid J9.dfr
      have HB := hid J9.below
      simp only [List.getElem?_toArray, List.getElem?_cons_zero] at u1
      have u4 := (World.cell?_of_block (a := ⟨w.heap.size + 1, 0, none⟩) (World.putObj_heap_other (w := W9) (o := .deferred none) (r := w.heap.size + 3) (k := w.heap.size + 1) (by omega))).trans u1
      clear hJ hY hr hW9 J9
      gi_wp2
      refine ⟨by simp, .inl ⟨_, _, rfl, run_takeDeferred HD.out, ?_⟩⟩
      refine ⟨.int .i64 R, by simp [results, Try.results82, go_sem, u4], ?_⟩
      exact ⟨rfl, HB.out.grown (grownBy_putObj' _ _ _) HB.out.size (fun k e => by cases e; omega)⟩
end Go.Proofs.Ytlgmjnnfndedbaa
