/- Walks over the program's package marks: Last. -/
import Derived.Test.YtmgbjkekfejnfaaMarkIs
import Derived.Test.YtmgbjkekfejnfaaMarkIt
import Derived.Test.YtmgbjkekfejnfaaLoopM
namespace Go.Proofs.Ytmgbjkekfejnfaa
open Go.RowKit Go.Lib
set_option maxRecDepth 100000
set_option linter.unusedVariables false
/-- What Last says, from the last mark backwards. -/
theorem Mk.lastB_step {l : List Mk.M} {nm : List UInt8} {k : Nat} {x : Mk.M} (hx : l[k]? = some x) :
    Mk.lastI l nm (Mk.behind l (k + 1)) (k + 1) = if x.id < 0 then -1 else if x.name = nm then (k : Int) else Mk.lastI l nm (Mk.behind l k) k := by
  rw [Mk.behind_step hx]
  by_cases h : x.id < 0
  · rw [if_pos h, if_pos h, Mk.lastI_stop _ _ (Nat.le_refl _)]
  · rw [if_neg h, if_neg h, Mk.lastI_step (Mk.behind_le l k) hx]
attribute [local go_sem] Oper.semAt_some
set_option maxHeartbeats 8000000 in
theorem plast_any (a : Option Addr) (n c : Nat) (rs : List MR) (xs : List Mk.M) (nm : List UInt8) (w : World) (h : MarksIn a n c rs xs w) :
    Calls Try.prog 15 #[.slice a n c, .string (bs nm)] w fun e w' => e = .returned (.int .i64 (Mk.lastI xs nm (Mk.behind xs n) n)) ∧ Below w.heap.size w w' := by
  have hf := h.few
  obtain ⟨R, hR⟩ : ∃ R, Mk.lastI xs nm (Mk.behind xs n) n = R := ⟨_, rfl⟩
  rw [hR]
  have HH := hid h
  have HR := hid hR
  obtain ⟨X, hX⟩ : ∃ X, bs nm = X := ⟨_, rfl⟩
  rw [hX]
  have HX := hid hX
  clear h hR hX
  obtain ⟨W1, hW1⟩ : ∃ W1, (w.alloc (.cells #[.string X] 9)).alloc (.cells #[.int .i64 0] 3) = W1 := ⟨_, rfl⟩
  have b1 : Below w.heap.size w W1 := by rw [← hW1]; exact ((Below.refl _ w).alloc (Nat.le_refl _) _).alloc (by simp) _
  have s1 : W1.heap.size = w.heap.size + 2 := by rw [← hW1]; simp
  have B0 : BlkW W1 w.heap.size #[.string X] 9 := by rw [← hW1]; exact (BlkW.new w _ _).alloc _
  have B1 : BlkW W1 (w.heap.size + 1) #[.int .i64 0] 3 := by
    rw [← hW1]
    have := BlkW.new (w.alloc (.cells #[.string X] 9)) #[.int .i64 0] 3
    rwa [World.size_alloc] at this
  have HB := hid (And.intro B0 (And.intro B1 (And.intro b1 s1)))
  have HW := hid hW1
  clear B0 B1 b1 s1 hW1
  refine (callsIn_wide (n := 3)).1 ?_
  refine callsIn_of_wp_marks Try.func15 rfl trivial ?_ rfl
  simp only [Try.ntmps15, List.size_toArray, List.length_cons, List.length_nil, Nat.reduceAdd, Nat.reduceSub, Array.replicate_succ, Array.replicate_zero, List.push_toArray, List.append_toArray, List.nil_append, List.cons_append]
  refine wpIn_wide.2 ?_
  go_wp2_with fail
  refine (mbackward_any a n c _).mono ?_
  rintro e w' ⟨rfl, rfl⟩
  rw [HW.out]
  obtain ⟨D0, D1, db, ds⟩ := HB.out
  obtain ⟨W0, hW0⟩ : ∃ W0, W1.alloc (.cells #[.slice a n c] 22) = W0 := ⟨_, rfl⟩
  have C2 := BlkW.new W1 #[.slice a n c] 22
  rw [ds] at C2
  have C0 := D0.alloc (.cells #[.slice a n c] 22)
  have C1 := D1.alloc (.cells #[.slice a n c] 22)
  have cb := db.alloc db.size (.cells #[.slice a n c] 22)
  have cs0 : (W1.alloc (.cells #[.slice a n c] 22)).heap.size = w.heap.size + 3 := by rw [World.size_alloc, ds]
  rw [hW0] at C0 C1 C2 cb cs0 ⊢
  rw [ds]
  have HC := hid (And.intro C0 (And.intro C1 (And.intro C2 (And.intro cb cs0))))
  clear D0 D1 db ds hW0 C0 C1 C2 cb cs0 HB HW
  go_wp2_with fail
  refine (wpIn_wide (n := 3)).1 ?_
  refine range_at3 (F := Fence.wide) rfl (fun h => by simp [Fence.wide] at h) (gf := 35) (lb := #[.pointer (some ⟨w.heap.size + 2, 0, none⟩)]) rfl trivial (enters_of Try.func35 (by kernel_rfl) rfl) fun fn _ => ?_
  obtain ⟨C0, C1, C2, cb, cs0⟩ := HC.out
  have HST := hid fun r => LoopM.start (w := w) (W := W0) (bl := [(w.heap.size, #[.string X], 9), (w.heap.size + 1, #[.int .i64 0], 3), (w.heap.size + 2, #[.slice a n c], 22)]) r (fun x hx => by
    simp only [List.mem_cons, List.not_mem_nil, or_false] at hx
    rcases hx with rfl | rfl | rfl
    · exact C0
    · exact C1
    · exact C2) (fun x hx => by
    simp only [List.mem_cons, List.not_mem_nil, or_false] at hx
    rcases hx with rfl | rfl | rfl
    · exact Nat.le_refl _
    · exact Nat.le_add_right _ _
    · exact Nat.le_add_right _ _) cb
  rw [cs0] at HST ⊢
  clear C0 C1 C2 cb cs0 HC
  generalize hr : recOf _ _ _ _ _ _ LoopState.ready = r
  obtain ⟨bl, hbl⟩ : ∃ bl : Blocks, [(w.heap.size, #[.string X], 9), (w.heap.size + 1, #[.int .i64 0], 3), (w.heap.size + 2, #[.slice a n c], 22)] = bl := ⟨_, rfl⟩
  rw [hbl] at HST
  have HBL := hid hbl
  have m0 : (w.heap.size, #[Value.string X], (9 : TypeId)) ∈ bl := by rw [← hbl]; simp
  have m1 : (w.heap.size + 1, #[Value.int .i64 0], (3 : TypeId)) ∈ bl := by rw [← hbl]; simp
  have m2 : (w.heap.size + 2, #[Value.slice a n c], (22 : TypeId)) ∈ bl := by rw [← hbl]; simp
  obtain ⟨be, hbe⟩ : ∃ be : Blocks, [(w.heap.size, #[.string X], 9), (w.heap.size + 1, #[.int .i64 R], 3), (w.heap.size + 2, #[.slice a n c], 22)] = be := ⟨_, rfl⟩
  have HBE := hid hbe
  have n1 : (w.heap.size + 1, #[Value.int .i64 R], (3 : TypeId)) ∈ be := by rw [← hbe]; simp
  have HSET := hid fun (W : World) (r : Loop) (hJ : LoopM w (w.heap.size + 3) r bl W) => (hJ.set_ (w.heap.size + 1) 0 (.int .i64 R) be (by omega) (fun x hx => by
    rw [← hbe] at hx
    simp only [List.mem_cons, List.not_mem_nil, or_false] at hx
    rcases hx with rfl | rfl | rfl
    · exact .inl ⟨by show w.heap.size ≠ _; omega, m0⟩
    · exact .inr ⟨rfl, _, m1, rfl⟩
    · exact .inl ⟨by show w.heap.size + 2 ≠ _; omega, m2⟩))
  clear hbl hbe
  have HM := hid (And.intro m0 (And.intro m1 (And.intro m2 n1)))
  clear m0 m1 m2 n1
  have hY : ∀ (k : Nat) (y : MR) (W : World), rs[k]? = some y → (LoopM w (w.heap.size + 3) r bl W ∧ Mk.lastI xs nm (Mk.behind xs (k + 1)) (k + 1) = R) →
      YieldAt Fence.wide (2 - 1) Try.prog (w.heap.size + 3 + 1) #[.int .i64 k, .agg #[.int .i64 y.id, .string (bs y.name), .slice y.aa y.an y.ac]] W fun e W' => (e = .returned (.bool true) ∧ LoopM w (w.heap.size + 3) r bl W' ∧ Mk.lastI xs nm (Mk.behind xs k) k = R) ∨
        (e = .returned (.bool false) ∧ ((R = -1 ∧ LoopM w (w.heap.size + 3) (leftJ r (.exit 0)) bl W') ∨ LoopM w (w.heap.size + 3) (leftJ r .ret) be W')) := by
    rintro k y W hy ⟨hJ, hV⟩
    have hst : r.state = .ready := by rw [← hr]; rfl
    have hpe : r.pending = none := by rw [← hr]; rfl
    have hfn : Fence.wide.fn r.fn := trivial
    have ha := congrArg Loop.assign hr
    have hb := congrArg Loop.body hr
    have hpp := congrArg Loop.params hr
    have htm := congrArg Loop.tmps hr
    dsimp only [recOf] at ha hb hpp htm
    refine round_at3 hJ.rcd hst hpe (by rw [← hpp]; rfl) hfn ?_
    rw [← ha, ← hb, ← hpp, ← htm]
    clear ha hb hpp htm hr hst hpe hfn
    obtain ⟨x, hx⟩ : ∃ x, xs[k]? = some x := ⟨_, List.getElem?_eq_getElem (by have := HH.out.atts.1; have := (List.getElem?_eq_some_iff.1 hy).1; omega)⟩
    rw [Mk.lastB_step hx] at hV
    have f := HH.out.atts.2 k y x hy hx
    rw [← f.id, ← f.name] at hV
    -- the mark in a block of its own
    have A1 := hJ.up ((Below.refl W.heap.size W).alloc (Nat.le_refl _) (.cells #[.int .i64 y.id, .string (bs y.name), .slice y.aa y.an y.ac] 25))
    have cE := BlkW.new W #[.int .i64 y.id, .string (bs y.name), .slice y.aa y.an y.ac] 25
    have sE : W.heap.size ≠ w.heap.size + 3 + 1 := by
      have := hJ.size
      omega
    have HV := hid hV
    clear hJ hV f hx hy
    gi_wp2
    refine ⟨A1.rcd, ?_⟩
    have J2 := A1.busy (busyR r)
    have cE2 : BlkW ((W.alloc (.cells #[.int .i64 y.id, .string (bs y.name), .slice y.aa y.an y.ac] 25)).putObj (w.heap.size + 3 + 1) (.loop (busyR r))) W.heap.size #[.int .i64 y.id, .string (bs y.name), .slice y.aa y.an y.ac] 25 := (World.putObj_heap_other sE).trans cE
    obtain ⟨W3, hW3⟩ : ∃ W3, (W.alloc (.cells #[.int .i64 y.id, .string (bs y.name), .slice y.aa y.an y.ac] 25)).putObj (w.heap.size + 3 + 1) (.loop (busyR r)) = W3 := ⟨_, rfl⟩
    rw [hW3] at J2 cE2 ⊢
    have HMK := hid (marker_any y.id (bs y.name) y.aa y.an y.ac W3)
    obtain ⟨m0, m1, m2, n1⟩ := HM.out
    have u0 := J2.at_ 0 m0
    have e0 := cE2.cell 0
    have e1 := cE2.cell 1
    have e2 := cE2.cell 2
    simp only [List.getElem?_toArray, List.getElem?_cons_zero, List.getElem?_cons_succ] at u0 e0 e1 e2
    have HE1 := hid fun V (hV : Below W3.heap.size W3 V) => cell_up e1 hV
    have HJ2 := hid J2
    obtain ⟨B, hB⟩ : ∃ B, W.heap.size = B := ⟨_, rfl⟩
    rw [hB] at e0 e1 e2 HE1 ⊢
    clear J2 A1 cE cE2 hW3 sE hB m0 m1 m2 n1 u0
    gi_wp2
    refine ⟨trivial, ?_⟩
    refine (callsIn_wide.2 HMK.out).mono ?_
    rintro e W4 ⟨rfl, b4⟩
    have J4 := HJ2.out.up b4
    have f1 := HE1.out W4 b4
    obtain ⟨m0, m1, m2, n1⟩ := HM.out
    have u0 := J4.at_ 0 m0
    have u1 := J4.at_ 0 m1
    have u2 := J4.free 0 m1
    simp only [List.getElem?_toArray, List.getElem?_cons_zero] at u0 u1
    have HJ4 := hid J4
    have HA4 := hid (HSET.out _ _ J4)
    clear J4 HJ2 HMK HE1 e0 e1 e2 b4 m0 m1 m2 n1
    by_cases hneg : y.id < 0
    · have d1 : decide (y.id < 0) = true := decide_eq_true hneg
      have HE := hid (show R = -1 by rw [← HV.out, if_pos hneg])
      clear hneg HV
      gi_wp2
      exact ⟨HJ4.out.rcd, .inr ⟨rfl, .inl ⟨HE.out, HJ4.out.busy _⟩⟩⟩
    · have d1 : decide (y.id < 0) = false := decide_eq_false hneg
      have HV2 := hid (show (if y.name = nm then (k : Int) else Mk.lastI xs nm (Mk.behind xs k) k) = R by rw [← HV.out, if_neg hneg])
      clear hneg HV
      by_cases hs : y.name = nm
      · have he : ((bs y.name).toList == X.toList) = true := by rw [hs, HX.out]; exact beq_iff_eq.2 rfl
        have HE := hid (show (k : Int) = R by rw [← HV2.out, if_pos hs])
        clear hs HV2
        gi_wp2
        rw [HE.out]
        exact ⟨HA4.out.rcd, .inr ⟨rfl, .inr (HA4.out.busy _)⟩⟩
      · have he : ((bs y.name).toList == X.toList) = false := beq_eq_false_iff_ne.2 fun e => hs (bs_inj (e.trans (by rw [HX.out])))
        have HE := hid (show Mk.lastI xs nm (Mk.behind xs k) k = R by rw [← HV2.out, if_neg hs])
        clear hs HV2
        gi_wp2
        exact ⟨HJ4.out.rcd, .inl ⟨rfl, HJ4.out.busy r, HE.out⟩⟩
  refine (mbacks_any a n c rs w HH.out.row hf (w.heap.size + 3 + 1) ⟨w.heap.size + 2, 0, none⟩ (fun k W => LoopM w (w.heap.size + 3) r bl W ∧ Mk.lastI xs nm (Mk.behind xs k) k = R)
    (fun W' => (R = -1 ∧ LoopM w (w.heap.size + 3) (leftJ r (.exit 0)) bl W') ∨ LoopM w (w.heap.size + 3) (leftJ r .ret) be W') (fun k W hJ => ⟨hJ.1.below, (hJ.1.at_ 0 HM.out.2.2.1).trans rfl⟩) hY _ ⟨HST.out r, HR.out⟩).mono ?_
  have HEND := hid fun (W : World) (r : Loop) (h : LoopM w (w.heap.size + 3) r be W) => (show ∃ p, p = w.heap.size + 1 ∧ (W.putObj (w.heap.size + 3) (.deferred none)).cell? ⟨p, 0, none⟩ = some (.int .i64 R) ∧ Below w.heap.size w (W.putObj (w.heap.size + 3) (.deferred none)) from ⟨_, rfl, ((h.shut.1 _ HM.out.2.2.2).cell 0).trans rfl, h.shut.2⟩)
  rintro e W ⟨hv, ⟨hJ, hVx⟩ | ⟨hRx, hJ⟩ | hJ⟩
  · have hRx : R = -1 := hVx.symm
    clear hVx
    refine ⟨hv, .inl ⟨hJ.rcd, ?_⟩⟩
    have J9 := hJ.busy (overR r)
    obtain ⟨W9, hW9⟩ : ∃ W9, W.putObj (w.heap.size + 3 + 1) (.loop (overR r)) = W9 := ⟨_, rfl⟩
    rw [hW9] at J9 ⊢
    have u1 := J9.at_ 0 HM.out.2.1
    have u2 := J9.free 0 HM.out.2.1
    simp only [List.getElem?_toArray, List.getElem?_cons_zero] at u1
    have SA := HSET.out _ _ J9
    rw [hRx] at SA
    have HSA := hid SA
    clear hY hr hJ hW9 J9 SA hRx
    go_wp2_with fail
    refine ⟨by simp, .inl ⟨_, _, rfl, run_takeDeferred HSA.out.dfr, ?_⟩⟩
    obtain ⟨p, rfl, u4, hb⟩ := HEND.out _ _ HSA.out
    refine ⟨.int .i64 R, by simp [results, Try.results15, go_sem, u4], ?_⟩
    exact ⟨rfl, hb⟩
  · refine ⟨hv, .inr ⟨_, hJ.rcd, ?_⟩⟩
    have J9 := hJ.busy (overR (leftJ r (.exit 0)))
    obtain ⟨W9, hW9⟩ : ∃ W9, W.putObj (w.heap.size + 3 + 1) (.loop (overR (leftJ r (.exit 0)))) = W9 := ⟨_, rfl⟩
    rw [hW9] at J9 ⊢
    refine wpIn_wide.2 ?_
    have u1 := J9.at_ 0 HM.out.2.1
    have u2 := J9.free 0 HM.out.2.1
    simp only [List.getElem?_toArray, List.getElem?_cons_zero] at u1
    have SA := HSET.out _ _ J9
    rw [hRx] at SA
    have HSA := hid SA
    clear hY hr hJ hW9 J9 SA hRx
    go_wp2_with fail
    refine ⟨by simp, .inl ⟨_, _, rfl, run_takeDeferred HSA.out.dfr, ?_⟩⟩
    obtain ⟨p, rfl, u4, hb⟩ := HEND.out _ _ HSA.out
    refine ⟨.int .i64 R, by simp [results, Try.results15, go_sem, u4], ?_⟩
    exact ⟨rfl, hb⟩
  · refine ⟨hv, .inr ⟨_, hJ.rcd, ?_⟩⟩
    have J9 := hJ.busy (overR (leftJ r .ret))
    obtain ⟨W9, hW9⟩ : ∃ W9, W.putObj (w.heap.size + 3 + 1) (.loop (overR (leftJ r .ret))) = W9 := ⟨_, rfl⟩
    rw [hW9] at J9 ⊢
    refine wpIn_wide.2 ?_
    have HSA := hid J9
    clear hY hr hJ hW9 J9
    go_wp2_with fail
    refine ⟨by simp, .inl ⟨_, _, rfl, run_takeDeferred HSA.out.dfr, ?_⟩⟩
    obtain ⟨p, rfl, u4, hb⟩ := HEND.out _ _ HSA.out
    refine ⟨.int .i64 R, by simp [results, Try.results15, go_sem, u4], ?_⟩
    exact ⟨rfl, hb⟩
end Go.Proofs.Ytmgbjkekfejnfaa
