/- Walks over the program's layer 13: Current, Close, holdsRows. -/
import Derived.Test.YtlgmjnnfndedbaaPlacePe
import Derived.Test.YtlgmjnnfndedbaaRefWhole
import Derived.Deep.LoopGhost
import Derived.IntWalk
import Derived.BigCall
import Derived.Handy
namespace Go.Proofs.Ytlgmjnnfndedbaa
open Go.RowKit Go.Lib
set_option maxRecDepth 100000
set_option linter.unusedVariables false
theorem WorldP.view {DP : TreeP13} {T : TypeId} {w0 w : World} {R Rt : Nat} {S St : Nat → Prop} {s : Plc.St} {ov mv : Value} {rs : List MR} (h : WorldP DP T w0 w R S s Rt ov mv rs St) (hO : Plc.Ok s) :
    ∃ g cap, ov = .slice (some ⟨g, 0, none⟩) s.op.length cap ∧ s.op.length ≤ cap ∧ cap ≤ 9223372036854775807 ∧ IsE w (some ⟨g, 0, none⟩) s.op.length s.op := h.op.view
set_option maxHeartbeats 4000000 in
theorem pcur_any (w0 w : World) (R Rt : Nat) (S St : Nat → Prop) (s : Plc.St) (ov mv : Value) (rs : List MR) (h : WorldP DomK 48 w0 w R S s Rt ov mv rs St) (hO : Plc.Ok s) (hf : s.op.length ≤ 4294967296) :
    Calls Try.prog 27 #[.pointer (some ⟨R, 0, none⟩)] w fun e w' => e = .returned (eV (Plc.cur s)) ∧ Below w.heap.size w w' := by
  obtain ⟨g, cap, rfl, hc1, hc2, hE⟩ := h.view hO
  obtain ⟨c0, c1, c2, c3, c4⟩ := h.cells
  have hp := hO.pos
  obtain ⟨hx, _⟩ := hO.at_ (show s.op.length - 1 < s.op.length by omega)
  obtain ⟨x0, x1, x2, x3⟩ := isE_at0 hE hx
  unfold eV Plc.cur
  generalize Plc.opAt s (s.op.length - 1) = x at *
  generalize bs x.name = nm at *
  obtain ⟨n, hn⟩ : ∃ n, s.op.length = n := ⟨_, rfl⟩
  rw [hn] at c1 hc1 hp hx x0 x1 x2 x3
  have hI1 : (n : Int) - 1 < (n : Int) := by omega
  have hI2 : (0 : Int) ≤ (n : Int) - 1 := by omega
  have hI3 : ((n : Int) - 1).toNat = n - 1 := by omega
  have hI4 : n - 1 < n := by omega
  have hI5 : (1 : Int) ≤ (n : Int) := by omega
  have hw : IntKind.i64.wrap ((n : Int) - 1) = (n : Int) - 1 := IntWalk.i64_in _ (by omega)
  obtain ⟨W, hW⟩ : ∃ W, w.alloc (.cells #[.int .i64 0, .int .u8 0, .string ⟨#[]⟩, .int .u8 0] 36) = W := ⟨_, rfl⟩
  have b0 : Below w.heap.size w W := by rw [← hW]; exact (Below.refl _ w).alloc (Nat.le_refl _) _
  have k0 : BlkW W w.heap.size #[.int .i64 0, .int .u8 0, .string ⟨#[]⟩, .int .u8 0] 36 := by rw [← hW]; exact BlkW.new w _ _
  have d1 := cell_up c1 b0
  have d2 := cell_up x0 b0
  have d3 := cell_up x1 b0
  have d4 := cell_up x2 b0
  have d5 := cell_up x3 b0
  have f0 := k0.free 0
  have f1 := k0.free 1
  have f2 := k0.free 2
  have f3 := k0.free 3
  have e0 := k0.cell 0
  have e1 := k0.cell 1
  have e2 := k0.cell 2
  have e3 := k0.cell 3
  simp only [List.getElem?_toArray, List.getElem?_cons_zero, List.getElem?_cons_succ] at e0 e1 e2 e3
  have HB := hid b0
  have HK := hid k0
  have HW := hid hW
  clear h hO hE hx c0 c1 c2 c3 c4 x0 x1 x2 x3 b0 k0 hW hn hf
  go_enter Try.func27, Try.ntmps27
  go_wp2
  rw [HW.out]
  go_region
  obtain ⟨W', hW', z0, z1, z2, z3, hb'⟩ := open_store HK.out HB.out (Nat.le_refl _) (.int .i64 x.id) (.int .u8 x.space) (.string nm) (.int .u8 x.point)
  rw [hW']
  have HB' := hid hb'
  clear hW' hb' d1 d2 d3 d4 d5 f0 f1 f2 f3 e0 e1 e2 e3 hI1 hI2 hI3 hI4 hI5 hw
  go_wp2
  refine bodyPost_ret (v := .agg #[.int .i64 x.id, .int .u8 x.space, .string nm, .int .u8 x.point]) (by simp [results, Try.results27, go_sem, z0, z1, z2, z3]) rfl ?_
  exact ⟨rfl, HB'.out⟩
set_option maxHeartbeats 4000000 in
theorem pclose_any (w0 w : World) (R Rt : Nat) (S St : Nat → Prop) (s : Plc.St) (ov mv : Value) (rs : List MR) (n : Int) (h : WorldP DomK 48 w0 w R S s Rt ov mv rs St) (hO : Plc.Ok s) (hf : s.op.length ≤ 4294967296) :
    Calls Try.prog 18 #[.pointer (some ⟨R, 0, none⟩), .int .i64 n] w fun e w' => (∃ v, e = .returned v) ∧ PTurned DomK 48 w0 w w' R S (Plc.close s n) := by
  obtain ⟨g, cap, rfl, hc1, hc2, hE⟩ := h.view hO
  obtain ⟨c0, c1, c2, c3, c4⟩ := h.cells
  have hfree := h.top.free 1
  have hp := hO.pos
  have HM := hid h
  have HE := hid (show PTurned DomK 48 w0 w w R S s from ⟨S, ⟨_, _, _, _, _, h⟩, Turn.refl S w⟩)
  obtain ⟨N, hN⟩ : ∃ N, s.op.length = N := ⟨_, rfl⟩
  have HN := hid hN
  rw [hN] at c1 hc1 hp hf
  clear h hO hE c0 c2 c3 c4 hN
  by_cases h1 : 1 ≤ n
  · have d1 : decide ((1 : Int) ≤ n) = true := decide_eq_true h1
    by_cases h2 : n < (N : Int)
    · have d2 : decide (n < (N : Int)) = true := decide_eq_true h2
      obtain ⟨k, rfl⟩ : ∃ k : Nat, n = k := ⟨n.toNat, by omega⟩
      have hk0 : (0 : Int) ≤ (k : Int) := by omega
      have hkc : (k : Int) ≤ (cap : Int) := by omega
      have hkcN : k ≤ cap := by omega
      have hop := HM.out.op
      rw [HN.out] at hop
      have ho := hop.take_ (k := k) (c := k) HN.out (show k ≤ N by omega) (Nat.le_refl _) (by omega)
      obtain ⟨S', hM', hT'⟩ := HM.out.open_ dpc_dom (w' := w) (nv := .slice (some ⟨g, 0, none⟩) k k) (l := s.op.take k) (Below.refl _ _) ho (fun q e => .inl e)
      have HR := hid (show PTurned DomK 48 w0 w (w.setCell ⟨R, 1, none⟩ (.slice (some ⟨g, 0, none⟩) k k)) R S (Plc.close s (k : Int)) from ⟨S', ⟨_, _, _, _, _, by
        have e : Plc.close s (k : Int) = { s with op := s.op.take k } := by
          unfold Plc.close
          rw [if_pos ⟨h1, by rw [HN.out]; exact h2⟩]
          rfl
        rw [e]
        exact hM'⟩, hT'⟩)
      clear hM' hT' ho hop
      go_enter Try.func18, Try.ntmps18
      go_wp2
      go_end0
      exact ⟨⟨_, rfl⟩, HR.out⟩
    · have d2 : decide (n < (N : Int)) = false := decide_eq_false h2
      have HR := hid (show PTurned DomK 48 w0 w w R S (Plc.close s n) by
        have e : Plc.close s n = s := by
          unfold Plc.close
          rw [if_neg (fun x => h2 (by rw [← HN.out]; exact x.2))]
        rw [e]
        exact HE.out)
      go_enter Try.func18, Try.ntmps18
      go_wp2
      go_end0
      exact ⟨⟨_, rfl⟩, HR.out⟩
  · have d1 : decide ((1 : Int) ≤ n) = false := decide_eq_false h1
    have HR := hid (show PTurned DomK 48 w0 w w R S (Plc.close s n) by
      have e : Plc.close s n = s := by
        unfold Plc.close
        rw [if_neg (fun x => h1 x.1)]
      rw [e]
      exact HE.out)
    go_enter Try.func18, Try.ntmps18
    go_wp2
    go_end0
    exact ⟨⟨_, rfl⟩, HR.out⟩
theorem bs_listP (x : List UInt8) : (bs x).toList = x := by rw [ByteArray.toList_eq]; rfl
/-- A table, or a part of one. -/
def holdsB (sp : Nat) (nm : List UInt8) : Bool := decide (sp = 0) && Plc.gridN.contains nm
theorem ret_boolP {b c : Bool} (h : b = c) : (Ending.returned (.bool b)) = .returned (.bool c) := by rw [h]
set_option maxHeartbeats 16000000 in
theorem pholds_any (id : Int) (sp pt : Nat) (nm : List UInt8) (w : World) :
    Calls Try.prog 56 #[.agg #[.int .i64 id, .int .u8 sp, .string (bs nm), .int .u8 pt]] w fun e w' => e = .returned (.bool (holdsB sp nm)) ∧ Below w.heap.size w w' := by
  have b0 : Below w.heap.size w (w.alloc (.cells #[.int .i64 id, .int .u8 sp, .string (bs nm), .int .u8 pt] 36)) := (Below.refl _ w).alloc (Nat.le_refl _) _
  have HB := hid b0
  have HR0 := hid (show holdsB sp nm = (decide (sp = 0) && Plc.gridN.contains (bs nm).toList) by rw [bs_listP]; rfl)
  generalize holdsB sp nm = Q at *
  generalize bs nm = X at *
  clear b0
  by_cases hs : sp = 0
  · have HR : Hid (Plc.gridN.contains X.toList = Q) := hid (by rw [HR0.out, hs]; rfl)
    subst hs
    rw [show ((0 : Nat) : Int) = 0 from rfl]
    clear HR0
    go_enter Try.func56, Try.ntmps56
    go_wp2
    all_goals go_ret
    all_goals refine ⟨ret_boolP ?_, HB.out⟩
    all_goals first
      | (rename_i h; rw [← HR.out, beq_iff_eq.1 h]; rfl)
      | (rename_i h1 h2; rw [h1] at h2; cases h2)
      | (rw [← HR.out]; simp only [Plc.gridN, Plc.tblN, List.contains_cons, List.contains_nil, Bool.or_self, *])
  · have hs2 : ((sp : Int) != 0) = true := by simp; omega
    have HR := hid (show Q = false by rw [HR0.out, decide_eq_false hs]; rfl)
    clear HR0 hs
    go_enter Try.func56, Try.ntmps56
    go_wp2
    go_ret
    exact ⟨ret_boolP HR.out.symm, HB.out⟩
theorem holds_iff (sp : Nat) (nm : List UInt8) : holdsB sp nm = true ↔ sp = 0 ∧ nm ∈ Plc.gridN := by
  unfold holdsB
  rw [Bool.and_eq_true, decide_eq_true_iff, List.contains_iff_mem]
end Go.Proofs.Ytlgmjnnfndedbaa
