/- Walks: package lex: All, a range over a function. -/
import Derived.Test.YtgldgdopabmefaaGreatDoorLoopJ
import Derived.Test.YtgldgdopabmefaaGreatDoorLoopK
import Derived.Test.YtgldgdopabmefaaGreatDoorLexWrit
namespace Go.Proofs.YtgldgdopabmefaaGreatDoor
open Go.RowKit Go.Lib
set_option maxRecDepth 100000
set_option linter.unusedVariables false

attribute [local go_sem] Oper.semAt_some
theorem tokens_any (s : ByteArray) (w : World) :
    Calls Tryz.prog 23 #[.string s] w fun e w' => e = .returned (.func (.func 45) #[] #[.pointer (some ⟨w.heap.size, 0, none⟩)]) ∧ w' = w.alloc (.cells #[.string s] 9) := by
  go_enter Tryz.func23, Tryz.ntmps23
  go_wp2
  go_ret
  exact ⟨by simp, rfl⟩
set_option maxHeartbeats 4000000 in
theorem toks_any {EW : World → Prop} (HN : LexNC EW) (HB : KeepsW EW) (s : ByteArray) (w : World) (r : Loop) (hT : EW w) (ws : s.size ≤ 300000)
    (hY : ∀ (ts : List Lex.T) (v : Value) (W : World) (t : Lex.T) (a : Option Addr) (c x : Nat), LoopJ w r s.size s ts v W → IsA W a c t.atts → c ≤ s.size → TypB W a → ts.length + 1 ≤ 1000000000 →
      YieldAt Fence.wide (2 - 1) Tryz.prog (w.heap.size + 3) #[tokV t.kind t.name a c x t.self t.text] W (Rounded w r s.size s ts t v W))
    (v0 : Value) (W0 : World) (hJ0 : LoopJ w r s.size s [] v0 W0) :
    CallsIn Fence.wide 2 Tryz.prog 45 #[.func (.yield (w.heap.size + 3)) #[] #[], .pointer (some ⟨w.heap.size + 1, 0, none⟩)] W0 fun e W' => (∃ v, e = .returned v) ∧ ∃ v, LoopJ w r s.size s (Lex.allAt s.data.toList 0) v W' := by
  have HSL := hid (size_list s)
  have HY := hid hY
  have p0 := hJ0.str.cell 0
  simp only [List.getElem?_toArray, List.getElem?_cons_zero] at p0
  have hl0 := hJ0.lt
  have HN1 := hid fun (k : Nat) (W : World) hW hk => lnext_at HN s k W hW ws hk
  have E1 := hid (HN1.out 0 W0 (HB _ _ hT hJ0.below) (by omega))
  have HJ0 := hid hJ0
  have HT := hid hT
  have HBB := hid HB
  clear hY HN HB hT hJ0
  refine callsIn_of_wp Tryz.func45 rfl trivial ?_ rfl
  simp only [Tryz.ntmps45, List.size_toArray, List.length_cons, List.length_nil, Nat.reduceAdd, Nat.reduceSub, Array.replicate_succ, Array.replicate_zero, List.push_toArray, List.append_toArray, List.nil_append, List.cons_append]
  gi_wp2
  refine ⟨trivial, ?_⟩
  refine (callsIn_wide.2 E1.out).mono ?_
  rintro e W2 ⟨hE, b2⟩
  unfold LexE at hE
  obtain ⟨X, hX⟩ : ∃ X, Lex.next s.data.toList [60, 47] 0 false 0 = X := ⟨_, rfl⟩
  rw [hX] at hE
  obtain ⟨a, c, x, rfl, hI, hc, hTy⟩ := hE
  unfold tokV
  have T3 := BlkW.new W2 (tokC X.1 a c x) 24
  have al : Below W2.heap.size W2 (W2.alloc (.cells (tokC X.1 a c x) 24)) := (Below.refl _ W2).alloc (Nat.le_refl _) _
  have J2 := HJ0.out.later b2
  have hI0 : TokI w r s 0 W2.heap.size X [] v0 a c x (W2.alloc (.cells (tokC X.1 a c x) 24)) :=
    ⟨J2.later al, T3, hI.below al, hc, hTy.below al, fun e => Nat.lt_irrefl _ (J2.own.old _ e), hX, Nat.zero_le _, Nat.zero_le _, rfl⟩
  have H0 := hid hI0
  have htv : w.heap.size + 4 ≤ W2.heap.size := by have := J2.lt; omega
  clear T3 al J2 hI0 hI hTy hX b2 p0 E1
  gi_wp2
  obtain ⟨tv, hv⟩ : ∃ tv, W2.heap.size = tv := ⟨_, rfl⟩
  rw [hv] at H0 htv ⊢
  clear hv
  gi_loopw [4] (fun p wr => ∃ (k : Nat) (X : Lex.T × Nat) (ts : List Lex.T) (v : Value) (a : Option Addr) (c x : Nat), p = .int .i64 X.2 ∧ Hid (TokI w r s k tv X ts v a c x wr)) (fun p wr => toksM s.size tv p wr)
  case atStart => exact ⟨0, X, [], v0, a, c, x, rfl, H0⟩
  case round =>
    clear H0
    obtain ⟨k, X, ts, v, a, c, x, rfl, hI⟩ := hrel
    have t0 := hI.out.tok.cell 0
    have t1 := hI.out.tok.cell 1
    have t2 := hI.out.tok.cell 2
    have t3 := hI.out.tok.cell 3
    have t4 := hI.out.tok.cell 4
    simp only [List.getElem?_toArray, List.getElem?_cons_zero, List.getElem?_cons_succ] at t0 t1 t2 t3 t4
    by_cases h6 : X.1.kind = 6
    · have d6 : ((X.1.kind : Int) != 6) = false := by simp; omega
      have HD : Hid (LoopJ w r s.size s (Lex.allAt s.data.toList 0) v wr) := hid (by
        have hj := hI.out.j
        have ha := hI.out.all
        rw [Lex.allAt_end (by rw [hI.out.hX]; exact h6), List.append_nil] at ha
        rwa [ha] at hj)
      gi_wp2
      refine ⟨fun _ h => (by cases h), ?_⟩
      gi_wp2
      go_end0
      exact ⟨⟨_, rfl⟩, v, HD.out⟩
    · have d6 : ((X.1.kind : Int) != 6) = true := by simp; omega
      have hkk := hI.out.hk
      have hle := hI.out.len
      obtain ⟨fn, tmps, assign, body, hy, hR⟩ := HY.out ts v wr X.1 a c x hI.out.j hI.out.isA hI.out.le hI.out.typ (by omega)
      unfold tokV at hy
      have HI := hI
      clear hI
      gi_wp2
      refine hR.mono ?_
      rintro e W3 hRd
      obtain rfl := hRd.1
      obtain ⟨v', hH⟩ := HI.out.behind hRd htv
      have q0 := hH.j.str.cell 0
      simp only [List.getElem?_toArray, List.getElem?_cons_zero] at q0
      have HH := hid hH
      clear hRd hH hR t0 t1 t2 t3 t4 hy
      have hng := Lex.next_grow s.data.toList [60, 47] 0 false s.data.toList.length k (by have := HSL.out; omega)
      rw [HI.out.hX] at hng
      have hX2 : X.2 ≤ 300000 := by
        have := HSL.out
        rcases hng with h | h
        · rw [h]; show s.data.toList.length ≤ _; omega
        · omega
      have E4 := hid (HN1.out X.2 W3 (HBB.out _ _ HT.out HH.out.j.below) hX2)
      clear hng
      gi_wp2
      refine ⟨trivial, ?_⟩
      refine (callsIn_wide.2 E4.out).mono ?_
      rintro e W5 ⟨hE5, b5⟩
      obtain ⟨Y, a', c', x', W6, rfl, hW6, hI6, ⟨k3, k4, k5⟩, k2, hT5⟩ := HH.out.on htv HI.out.hX hkk h6 hle HI.out.all hE5 b5
      have m0 := toksM_eq HI.out
      have m1 := toksM_eq hI6
      unfold tokV
      have f0 := hT5.free 0
      have f1 := hT5.free 1
      have f2 := hT5.free 2
      have f3 := hT5.free 3
      have f4 := hT5.free 4
      have s0 := hT5.cell 0
      have s1 := hT5.cell 1
      have s2 := hT5.cell 2
      have s3 := hT5.cell 3
      have s4 := hT5.cell 4
      simp only [List.getElem?_toArray, List.getElem?_cons_zero, List.getElem?_cons_succ] at s0 s1 s2 s3 s4
      have HI6 := hid hI6
      have HW6 := hid hW6
      have HM : Hid (toksM s.size tv (.int .i64 Y.2) W6 < toksM s.size tv (.int .i64 X.2) wr) := hid (by
        rw [m0, m1, if_neg h6]
        by_cases hy6 : Y.1.kind = 6
        · rw [if_pos hy6]; omega
        · rw [if_neg hy6]; have := k5 hy6; omega)
      clear hE5 hI6 hW6 hT5 m0 m1 k3 k4 k5 b5 q0
      gi_wp2
      rw [HW6.out]
      go_roundw
      case rel => exact ⟨X.2, Y, ts ++ [X.1], v', a', c', x', rfl, HI6⟩
      case measure => exact HM.out
set_option maxHeartbeats 4000000 in
theorem lexall_any {EW : World → Prop} (HN : LexNC EW) (HB : KeepsW EW) (s : ByteArray) (w : World) (hT : EW w) (ws : s.size ≤ 300000) :
    Calls Tryz.prog 10 #[.string s] w fun e w' => AllE s.data.toList s.size e w' ∧ Below w.heap.size w w' := by
  refine (callsIn_wide (n := 3)).1 ?_
  refine callsIn_of_wp_marks Tryz.func10 rfl trivial ?_ rfl
  simp only [Tryz.ntmps10, List.size_toArray, List.length_cons, List.length_nil, Nat.reduceAdd, Nat.reduceSub, Array.replicate_succ, Array.replicate_zero, List.push_toArray, List.append_toArray, List.nil_append, List.cons_append]
  gi_wp2
  refine ⟨trivial, ?_⟩
  refine (callsIn_wide.2 (tokens_any s _)).mono ?_
  rintro e w' ⟨rfl, rfl⟩
  gi_wp2
  refine range_at (F := Fence.wide) rfl (fun h => by simp [Fence.wide] at h) (gf := 45) (lb := #[.pointer (some ⟨w.heap.size + 1, 0, none⟩)]) rfl trivial (enters_of Tryz.func45 (by kernel_rfl) rfl) fun fn _ => ?_
  obtain ⟨W0, hW0⟩ : ∃ W0, (w.alloc (.cells #[.slice none 0 0] 31)).alloc (.cells #[.string s] 9) = W0 := ⟨_, rfl⟩
  have hs0 : W0.heap.size = w.heap.size + 2 := by rw [← hW0]; simp
  rw [hW0, hs0]
  generalize hr : recOf _ _ _ _ _ _ LoopState.ready = r
  have hY : ∀ (ts : List Lex.T) (v : Value) (W : World) (t : Lex.T) (a : Option Addr) (c x : Nat), LoopJ w r s.size s ts v W → IsA W a c t.atts → c ≤ s.size → TypB W a → ts.length + 1 ≤ 1000000000 →
      YieldAt Fence.wide (3 - 1 - 1) Tryz.prog (w.heap.size + 3) #[tokV t.kind t.name a c x t.self t.text] W (Rounded w r s.size s ts t v W) := by
    intro ts v W t a c x hJ hI hc hTy hlen
    have hst : r.state = .ready := by rw [← hr]; rfl
    have hpe : r.pending = none := by rw [← hr]; rfl
    have hfn : Fence.wide.fn r.fn := trivial
    have ha := congrArg Loop.assign hr
    have hb := congrArg Loop.body hr
    have hp := congrArg Loop.params hr
    have htm := congrArg Loop.tmps hr
    dsimp only [recOf] at ha hb hp htm
    refine round_at hJ.rcd hst hpe (by rw [← hp]; rfl) hfn ?_
    rw [← ha, ← hb, ← hp, ← htm]
    clear ha hb hp htm hr
    unfold tokV
    gi_wp2
    have hl3 := hJ.lt
    have J1 := hJ.later ((Below.refl W.heap.size W).alloc (Nat.le_refl _) (.cells #[.int .u8 t.kind, .string (bs t.name), .slice a c x, .bool t.self, .string (bs t.text)] 24))
    have F1 : Fits _ s.size ⟨t.kind, t.name, a, c, x, t.self, t.text⟩ t := fits_new (show Fits W s.size ⟨t.kind, t.name, a, c, x, t.self, t.text⟩ t from ⟨rfl, rfl, rfl, rfl, hI, hc, hTy⟩) (.cells #[.int .u8 t.kind, .string (bs t.name), .slice a c x, .bool t.self, .string (bs t.text)] 24)
    have T1 := BlkW.new W #[.int .u8 t.kind, .string (bs t.name), .slice a c x, .bool t.self, .string (bs t.text)] 24
    obtain ⟨W1, hW1⟩ : ∃ W1, W.alloc (.cells #[.int .u8 t.kind, .string (bs t.name), .slice a c x, .bool t.self, .string (bs t.text)] 24) = W1 := ⟨_, rfl⟩
    have hb1 : Below W.heap.size W W1 := by rw [← hW1]; exact (Below.refl W.heap.size W).alloc (Nat.le_refl _) _
    rw [hW1] at J1 F1 T1 ⊢
    refine ⟨J1.rcd, ?_⟩
    have hg2 := grownBy_putObj' W1 (w.heap.size + 3) (.loop (busyR r))
    obtain ⟨O2, hvl⟩ := J1.own.loop J1.rcd (.loop (busyR r))
    have F2 := F1.loop J1.rcd (.loop (busyR r))
    have X2 : BlkW _ w.heap.size #[v] 31 := blk_of_heap J1.box (World.putObj_heap_other (w := W1) (o := .loop (busyR r)) (r := w.heap.size + 3) (by omega))
    have S2 : BlkW _ (w.heap.size + 1) #[.string s] 9 := blk_of_heap J1.str (World.putObj_heap_other (w := W1) (o := .loop (busyR r)) (r := w.heap.size + 3) (by omega))
    have T2 : BlkW _ W.heap.size _ 24 := blk_of_heap T1 (World.putObj_heap_other (w := W1) (o := .loop (busyR r)) (r := w.heap.size + 3) (by omega))
    have R2 := World.putObj_heap_same (w := W1) (o := .loop (busyR r)) (Array.getElem?_eq_some_iff.1 J1.rcd).1
    have D2 := (World.putObj_heap_other (w := W1) (o := .loop (busyR r)) (r := w.heap.size + 3) (k := w.heap.size + 2) (by omega)).trans J1.dfr
    have B2 := J1.below.grown hg2 J1.below.size (fun k e => by cases e; omega)
    have h2 : ∀ b, b < W.heap.size → b ≠ w.heap.size + 3 → (W1.putObj (w.heap.size + 3) (.loop (busyR r))).heap[b]? = W.heap[b]? := fun b hb hne => (World.putObj_heap_other hne).trans (hb1.block b hb)
    have hs2 : W.heap.size ≤ (W1.putObj (w.heap.size + 3) (.loop (busyR r))).heap.size := by have := hb1.size; simp; omega
    obtain ⟨W2, hW2⟩ : ∃ W2, W1.putObj (w.heap.size + 3) (.loop (busyR r)) = W2 := ⟨_, rfl⟩
    rw [hW2] at hg2 O2 F2 X2 S2 T2 R2 D2 B2 h2 hs2 ⊢
    clear hW1 hW2 J1 F1 T1
    have p0 := X2.cell 0
    have f0 := X2.free 0
    have y0 := T2.cell 0
    have y1 := T2.cell 1
    have y2 := T2.cell 2
    have y3 := T2.cell 3
    have y4 := T2.cell 4
    simp only [List.getElem?_toArray, List.getElem?_cons_zero, List.getElem?_cons_succ] at p0 y0 y1 y2 y3 y4
    have O3 := hid (own_new (w := w) O2 (.cells #[.int .u8 t.kind, .string (bs t.name), .slice a c x, .bool t.self, .string (bs t.text)] 24))
    have F3 := hid (fits_new F2 (.cells #[.int .u8 t.kind, .string (bs t.name), .slice a c x, .bool t.self, .string (bs t.text)] 24))
    have B3 := hid (B2.alloc B2.size (.cells #[.int .u8 t.kind, .string (bs t.name), .slice a c x, .bool t.self, .string (bs t.text)] 24))
    have N3 := hid (tok_new W2 ⟨t.kind, t.name, a, c, x, t.self, t.text⟩ W2.heap.size rfl)
    have HJ := hid hJ
    clear hJ hI hTy O2 F2
    have X3 := hid (X2.alloc (.cells #[.int .u8 t.kind, .string (bs t.name), .slice a c x, .bool t.self, .string (bs t.text)] 24))
    have H2 := hid h2
    have R3 := hid R2
    have HB2 := hid B2
    have HS2 := hid hs2
    clear T2 X2 S2 D2 R2 B2 hb1 hg2 h2 hs2
    gi_wp2_with (gi_at_builtin; refine appendIn_K rfl _ _ rfl w.heap.size s.size _ ts rfl O3.out ⟨W2.heap.size, 0, none⟩ 1 ⟨t.kind, t.name, a, c, x, t.self, t.text⟩ t rfl N3.out F3.out (by omega) B3.out.size ?_; intro v' w' hown2 hgr2 hloc; have HE := hid (rounded_mk HJ.out H2.out HS2.out HB2.out R3.out hown2 hgr2 hloc); have hX4 := X3.out.grow hgr2 (Ne.symm (O3.out.not X3.out (by intro cs e; injection e with _ e2 _; exact absurd e2 (by decide)))); have p1 := hX4.cell 0; have f1 := hX4.free 0; simp only [List.getElem?_toArray, List.getElem?_cons_zero] at p1; obtain ⟨xa, xc, hve, _, _, _⟩ := own_isK hown2; obtain ⟨xl, hxl⟩ : ∃ xl, (ts ++ [t]).length = xl := ⟨_, rfl⟩; rw [hxl] at hve; subst hve; clear hown2 hgr2 hloc hX4 hxl)
    exact HE.out
  have a0 := BlkW.new w #[.slice none 0 0] 31
  have a1 := BlkW.new (w.alloc (.cells #[.slice none 0 0] 31)) #[.string s] 9
  rw [World.size_alloc] at a1
  have a0' := a0.alloc (.cells #[.string s] 9)
  have bw : Below w.heap.size w W0 := by rw [← hW0]; exact ((Below.refl _ w).alloc (Nat.le_refl _) _).alloc (by simp) _
  rw [hW0] at a1 a0'
  have hJ0 : LoopJ w r s.size s [] (.slice none 0 0) ((W0.alloc (.deferred (some []))).alloc (.loop r)) := by
    have d1 := heap_alloc_new W0 (.deferred (some []))
    have d2 := heap_alloc_new (W0.alloc (.deferred (some []))) (.loop r)
    rw [World.size_alloc, hs0] at d2
    rw [hs0] at d1
    exact ⟨d2, (Below.heap_alloc _ _ _ (by rw [World.size_alloc]; omega)).trans d1, (a0'.alloc _).alloc _, (a1.alloc _).alloc _, OwnT.nil _ _ _, (bw.alloc bw.size _).alloc (bw.alloc bw.size _).size _⟩
  refine (toks_any HN HB s w r hT ws hY _ _ hJ0).mono ?_
  rintro e W ⟨hv, v, hJ⟩
  refine ⟨hv, hJ.rcd, ?_⟩
  generalize recOf _ _ _ _ _ _ LoopState.exhausted = rx
  have hl := hJ.lt
  obtain ⟨o1, _⟩ := hJ.own.loop hJ.rcd (.loop rx)
  have x1 : BlkW _ w.heap.size #[v] 31 := blk_of_heap hJ.box (World.putObj_heap_other (w := W) (o := .loop rx) (r := w.heap.size + 3) (by omega))
  have d1 := (World.putObj_heap_other (w := W) (o := .loop rx) (r := w.heap.size + 3) (k := w.heap.size + 2) (by omega)).trans hJ.dfr
  have b1 := hJ.below.grown (grownBy_putObj' W (w.heap.size + 3) (.loop rx)) hJ.below.size (fun k e => by cases e; omega)
  obtain ⟨W', hW'⟩ : ∃ W', W.putObj (w.heap.size + 3) (.loop rx) = W' := ⟨_, rfl⟩
  rw [hW'] at o1 x1 d1 b1
  rw [show w.heap.size + 2 + 1 = w.heap.size + 3 from rfl, hW']
  obtain ⟨o2, _⟩ := o1.turn d1 (fun _ _ _ e => by cases e) (.deferred none)
  have b2 := b1.grown (grownBy_putObj' W' (w.heap.size + 2) (.deferred none)) b1.size (fun k e => by cases e; omega)
  have c0 := x1.cell 0
  simp only [List.getElem?_toArray, List.getElem?_cons_zero] at c0
  obtain ⟨xa, xc, hve, hIT, _, _⟩ := own_isK o2
  have hln := Lex.all_len s.data.toList s.data.toList.length 0 (by omega)
  rw [Nat.sub_zero, size_list] at hln
  have HR : Hid (AllE s.data.toList s.size (.returned v) (W'.putObj (w.heap.size + 2) (.deferred none)) ∧ Below w.heap.size w (W'.putObj (w.heap.size + 2) (.deferred none))) := hid ⟨⟨xa, xc, by rw [hve], hIT, hln⟩, b2⟩
  have HD := hid d1
  clear hve hIT o1 o2 b1 b2 x1 d1 hJ hY hJ0 a0 a1 a0' bw
  gi_wp2
  refine ⟨by simp, .inl ⟨_, _, rfl, run_takeDeferred HD.out, ?_⟩⟩
  refine ⟨_, results_tmp rfl _ _ _, ?_⟩
  exact HR.out
end Go.Proofs.YtgldgdopabmefaaGreatDoor
