/- Walks over the program's package dom: kids, Kids. -/
import Derived.Test.YtlgmjnnfndedbaaLinkA
import Derived.Test.YtlgmjnnfndedbaaRangeL
import Derived.Test.YtlgmjnnfndedbaaDomC
import Derived.Maps.OwnIn
namespace Go.Proofs.Ytlgmjnnfndedbaa
open Go.RowKit Go.Lib
set_option maxRecDepth 100000
set_option linter.unusedVariables false

/-- 'append(own, x)' of a number, within a fence. -/
theorem appendIn_Z {F : Fence} {nF : Nat} {w : World} {ops : Array Oper} {rest : List Oper} {o : Oper} {a : Act} {Q : Exit → Act → World → Prop} (hgd : o.guard = none) (s x : Operand)
    (ho : o.op = .call { callee := .builtin .append, args := #[s, x], argTypes := #[79, 79] })
    (base : Nat) (v : Value) (acc : List Nat) (hs : a.eval s = v) (hown : w.ownsRow base 3 1 v acc.length (zL acc))
    (ad : Addr) (c k : Nat) (hx : a.eval x = .slice (some ad) 1 c) (hnew : w.cell? ad = some (.int .i64 (k : Nat)))
    (hlen : acc.length + 1 ≤ 1000000000) (hbase : base ≤ w.heap.size)
    (h : ∀ v' w', w'.ownsRow base 3 1 v' (acc ++ [k]).length (zL (acc ++ [k])) → w.grownBy w' v.ownBlock → (v'.ownBlock = v.ownBlock ∨ v'.ownBlock = some w.heap.size) → wpListIn F nF Try.prog ops Q rest (a.put o.dst v') w') : wpListIn F nF Try.prog ops Q (o :: rest) a w := by
  obtain ⟨i0, hi, hz0, hz1, hz2⟩ := info_parts info_int
  refine wpListIn_append_own_at w hgd s x 79 ho base 3 i0 (.int .i64 0) 1 8 Try.underlying79 hi hz0 hz1 hz2 rfl (by decide) v acc.length (zL acc) hs hown ad 1 c (zL [k]) hx rfl ?_ (zL_one [k]) (by unfold maxLen; omega) (by omega) hbase ?_
  · intro j u hj
    match j, hj with
    | 0, hj =>
      simp [zL] at hj
      subst hj
      have : ad.add 0 = ad := by obtain ⟨b, off, sp⟩ := ad; unfold Addr.add; cases sp <;> simp
      rw [this, hnew]
    | j + 1, hj => simp [zL] at hj
  · intro v' w' g1 g2 _ g4
    refine h v' w' ?_ g2 g4
    rw [List.length_append, zL_append]
    exact g1
/-- What lies in memory while 'Kids' goes on: the list, the tree, the number; then the loop; the list's row lies behind them. -/
structure LoopZ (w : World) (r : Loop) (i : Int) (R : Nat) (acc : List Nat) (v : Value) (W : World) : Prop where
  rcd : W.heap[w.heap.size + 4]? = some (.loop r)
  dfr : W.heap[w.heap.size + 3]? = some (.deferred (some []))
  box : BlkW W w.heap.size #[v] 79
  bt : BlkW W (w.heap.size + 1) #[.pointer (some ⟨R, 0, none⟩)] 46
  bi : BlkW W (w.heap.size + 2) #[.int .i64 i] 3
  own : W.ownsRow (w.heap.size + 5) 3 1 v acc.length (zL acc)
  below : Below w.heap.size w W
theorem LoopZ.lt {w W : World} {r : Loop} {i : Int} {R : Nat} {acc : List Nat} {v : Value} (h : LoopZ w r i R acc v W) : w.heap.size + 5 ≤ W.heap.size := (Array.getElem?_eq_some_iff.1 h.rcd).1
theorem LoopZ.busy {w W : World} {r : Loop} {i : Int} {R : Nat} {acc : List Nat} {v : Value} (h : LoopZ w r i R acc v W) (r' : Loop) : LoopZ w r' i R acc v (W.putObj (w.heap.size + 4) (.loop r')) := by
  have k : ∀ b, b ≠ w.heap.size + 4 → (W.putObj (w.heap.size + 4) (.loop r')).heap[b]? = W.heap[b]? := fun b hb => World.putObj_heap_other hb
  exact ⟨World.putObj_heap_same (Array.getElem?_eq_some_iff.1 h.rcd).1, (k _ (by omega)).trans h.dfr, (k _ (by omega)).trans h.box, (k _ (by omega)).trans h.bt, (k _ (by omega)).trans h.bi,
    own_keep h.own fun g hg => k g (by have := own_ge h.own g hg; omega), h.below.grown (grownBy_putObj' W (w.heap.size + 4) (.loop r')) h.below.size (fun k e => by cases e; omega)⟩
theorem LoopZ.drew {w W : World} {r : Loop} {i : Int} {R : Nat} {acc : List Nat} {v : Value} (h : LoopZ w r i R acc v W) : LoopZ w r i R acc v W.drew :=
  ⟨h.rcd, h.dfr, h.box, h.bt, h.bi, own_keep h.own fun _ _ => rfl, h.below.drew⟩
/-- A kid is appended to the list. -/
theorem LoopZ.add {w W w' : World} {r : Loop} {i : Int} {R : Nat} {acc : List Nat} {v v' : Value} {o : Obj} (h : LoopZ w r i R acc v W) (k : Nat) (own' : w'.ownsRow (w.heap.size + 5) 3 1 v' (acc ++ [k]).length (zL (acc ++ [k]))) (hg : (W.alloc o).grownBy w' v.ownBlock) :
    LoopZ w r i R (acc ++ [k]) v' (w'.setCell ⟨w.heap.size, 0, none⟩ v') := by
  have hl := h.lt
  have hsz : (W.alloc o).heap.size = W.heap.size + 1 := World.size_alloc _ _
  have hh : ∀ b, b < w.heap.size + 5 → w'.heap[b]? = W.heap[b]? := fun b hb => (hg.block b (by omega) fun e => by have := own_ge h.own b e.symm; omega).trans (Below.heap_alloc W o b (by omega))
  have k0 : ∀ b, b ≠ w.heap.size → (w'.setCell ⟨w.heap.size, 0, none⟩ v').heap[b]? = w'.heap[b]? := fun b hb => Below.heap_setCell _ _ _ _ hb
  have hB : BlkW w' w.heap.size #[v] 79 := (hh _ (by omega)).trans h.box
  exact ⟨(k0 _ (by omega)).trans ((hh _ (by omega)).trans h.rcd), (k0 _ (by omega)).trans ((hh _ (by omega)).trans h.dfr), hB.set_ 0 v', (k0 _ (by omega)).trans ((hh _ (by omega)).trans h.bt), (k0 _ (by omega)).trans ((hh _ (by omega)).trans h.bi),
    own_keep own' fun g hg => k0 g (by have := own_ge own' g hg; omega),
    ((h.below.alloc h.below.size o).grown hg (h.below.alloc h.below.size o).size (fun g e => by have := own_ge h.own g e; omega)).setCell (p := ⟨w.heap.size, 0, none⟩) (Nat.le_refl _) v'⟩
theorem pkidsf_any (R : Nat) (i : Int) (w : World) :
    Calls Try.prog 80 #[.pointer (some ⟨R, 0, none⟩), .int .i64 i] w fun e w' => e = .returned (.func (.func 92) #[] #[.pointer (some ⟨w.heap.size, 0, none⟩), .pointer (some ⟨w.heap.size + 1, 0, none⟩)]) ∧ w' = (w.alloc (.cells #[.pointer (some ⟨R, 0, none⟩)] 46)).alloc (.cells #[.int .i64 i] 3) := by
  go_enter Try.func80, Try.ntmps80
  go_wp2
  go_ret
  exact ⟨rfl, rfl⟩
/-- What the links of a tree tell of the kids of p. -/
structure LinksK (w : World) (R g n cap p : Nat) (L : List Nat) : Prop where
  top : w.cell? ⟨R, 0, none⟩ = some (.slice (some ⟨g, 0, none⟩) n cap)
  first : w.cell? ⟨g, p * 10 + 6, none⟩ = some (.int .i64 (Dom.headI L))
  next : ∀ k x, L[k]? = some x → w.cell? ⟨g, x * 10 + 9, none⟩ = some (.int .i64 (Dom.headI (L.drop (k + 1))))
  lt : ∀ x ∈ L, x < n
theorem ReadK.links {w : World} {base R g cap : Nat} {S : Nat → Prop} {rs : List PR} {t : Dom.T} (h : ReadK w base R S g cap rs t) (hG : Dom.Good t) {p : Nat} (hp : p < t.length) : LinksK w R g t.length cap p (Dom.kidsAt t p) := by
  obtain ⟨r, _, X, _⟩ := h.at_ hp
  refine ⟨h.top, X.c6, fun k x hx => ?_, fun x hx => (hG.kid p x hx).1⟩
  have hm := List.mem_of_getElem? hx
  obtain ⟨r2, _, Y, _⟩ := h.at_ (hG.kid p x hm).1
  have hc := h.mod.lks.chain p hp
  have hlt : k < (Dom.kidsAt t p).length := (List.getElem?_eq_some_iff.1 hx).1
  have es : Dom.kidsAt t p = (Dom.kidsAt t p).take k ++ x :: (Dom.kidsAt t p).drop (k + 1) := by
    have h1 := List.take_append_drop k (Dom.kidsAt t p)
    rw [List.drop_eq_getElem_cons hlt] at h1
    rw [(List.getElem?_eq_some_iff.1 hx).2] at h1
    exact h1.symm
  have hn : (lkOf rs x).next = Dom.headI ((Dom.kidsAt t p).drop (k + 1)) := by
    rw [es] at hc
    exact hc.next
  rw [← hn]
  exact Y.c9
theorem LinksK.below {w w' : World} {R g n cap p : Nat} {L : List Nat} (h : LinksK w R g n cap p L) (hb : Below w.heap.size w w') : LinksK w' R g n cap p L :=
  ⟨cell_up h.top hb, cell_up h.first hb, fun k x hx => cell_up (h.next k x hx) hb, h.lt⟩
theorem head_drop {L : List Nat} (k : Nat) : (k = L.length ∧ Dom.headI (L.drop k) = -1) ∨ L.length < k ∨ ∃ x, L[k]? = some x ∧ Dom.headI (L.drop k) = (x : Nat) ∧ k < L.length := by
  rcases Nat.lt_trichotomy k L.length with h | h | h
  · refine .inr (.inr ⟨L[k], List.getElem?_eq_getElem h, ?_, h⟩)
    rw [List.drop_eq_getElem_cons h]
    rfl
  · refine .inl ⟨h, ?_⟩
    rw [h, List.drop_length]
    rfl
  · exact .inr (.inl h)
/-- How many are still to come. -/
def kidM (L : List Nat) (p : Value) : Nat := match p with
  | .int _ x => if x = -1 then 0 else L.length - L.idxOf x.toNat
  | _ => 0
theorem kidM_at {L : List Nat} (hN : L.Nodup) {k x : Nat} (h : L[k]? = some x) : kidM L (.int .i64 (x : Nat)) = L.length - k := by
  unfold kidM
  simp only
  rw [if_neg (by omega), show ((x : Int)).toNat = x by omega]
  obtain ⟨hk, e⟩ := List.getElem?_eq_some_iff.1 h
  rw [← e, hN.idxOf_getElem]
set_option maxHeartbeats 8000000 in
/-- It hands out the kids, one by one. -/
theorem pkids1_any (R g n cap p : Nat) (L : List Nat) (w : World) (r : Loop) (hp : p < n) (hn : n ≤ 1000000) (hN : L.Nodup) (hL : LinksK w R g n cap p L)
    (hY : ∀ (k x : Nat) (v : Value) (W : World), LoopZ w r p R (L.take k) v W → L[k]? = some x → YieldAt Fence.wide (2 - 1) Try.prog (w.heap.size + 4) #[.int .i64 x] W fun e W' => e = .returned (.bool true) ∧ ∃ v', LoopZ w r p R (L.take (k + 1)) v' W')
    (v0 : Value) (W0 : World) (hJ0 : LoopZ w r p R [] v0 W0) :
    CallsIn Fence.wide 2 Try.prog 92 #[.func (.yield (w.heap.size + 4)) #[] #[], .pointer (some ⟨w.heap.size + 1, 0, none⟩), .pointer (some ⟨w.heap.size + 2, 0, none⟩)] W0 fun e W' => (∃ v, e = .returned v) ∧ ∃ v, LoopZ w r p R L v W' := by
  have HY := hid hY
  have q0 := hJ0.bi.cell 0
  have q1 := hJ0.bt.cell 0
  simp only [List.getElem?_toArray, List.getElem?_cons_zero] at q0 q1
  have HJ0 := hid hJ0
  have L0 := hL.below hJ0.below
  have l1 := L0.top
  have l6 := L0.first
  have HL := hid hL
  have HN := hid hN
  have hp3 : (p : Int) < (n : Int) := by omega
  have zp : ((p : Int)).toNat = p := by omega
  have HH := phas_any W0 R g n cap p l1 hn
  rw [decide_eq_true (show (0 : Int) ≤ (p : Int) ∧ (p : Int) < (n : Int) from ⟨by omega, by omega⟩)] at HH
  have HH := hid HH
  clear hY hJ0 hL hN L0
  refine callsIn_of_wp Try.func92 rfl trivial ?_ rfl
  simp only [Try.ntmps92, List.size_toArray, List.length_cons, List.length_nil, Nat.reduceAdd, Nat.reduceSub, Array.replicate_succ, Array.replicate_zero, List.push_toArray, List.append_toArray, List.nil_append, List.cons_append]
  gi_wp2
  refine ⟨trivial, ?_⟩
  refine (callsIn_wide.2 HH.out).mono ?_
  rintro e W2 ⟨rfl, rfl⟩
  gi_wp2
  gi_region
  gi_wp2
  gi_loopw [4] (fun q wr => ∃ (k : Nat) (v : Value), q = .int .i64 (Dom.headI (L.drop k)) ∧ k ≤ L.length ∧ Hid (LoopZ w r p R (L.take k) v wr)) (fun q _ => kidM L q)
  case atStart => exact ⟨0, v0, rfl, Nat.zero_le _, hid HJ0.out.drew⟩
  case round =>
    clear HJ0 q0 q1 l1 l6
    obtain ⟨k, v, rfl, hk, hJ⟩ := hrel
    rcases head_drop (L := L) k with ⟨rfl, e⟩ | e | ⟨x, hx, e, hlt⟩
    · rw [List.take_length] at hJ
      rw [e]
      gi_wp2
      refine ⟨fun _ h => (by cases h), ?_⟩
      gi_wp2
      go_end0
      exact ⟨⟨_, rfl⟩, v, hJ.out⟩
    · exact absurd hk (by omega)
    · have dk : ((x : Int) != -1) = true := by simp
      have hxn := HL.out.lt x (List.mem_of_getElem? hx)
      have HM : Hid (kidM L (.int .i64 (Dom.headI (L.drop (k + 1)))) < kidM L (.int .i64 (x : Int))) := hid (by
        rw [kidM_at HN.out hx]
        rcases head_drop (L := L) (k + 1) with ⟨_, e2⟩ | e2 | ⟨y, hy, e2, hlt2⟩
        · rw [e2]
          show 0 < _
          omega
        · omega
        · rw [e2, kidM_at HN.out hy]
          omega)
      obtain ⟨fn, tmps, assign, body, hy, hR⟩ := HY.out k x v wr hJ.out hx
      rw [e]
      gi_wp2
      refine hR.mono ?_
      rintro e' W3 ⟨rfl, v3, hJ3⟩
      have t0 := hJ3.bt.cell 0
      simp only [List.getElem?_toArray, List.getElem?_cons_zero] at t0
      have L3 := HL.out.below hJ3.below
      have t1 := L3.top
      have t9 := L3.next k x hx
      have hx3 : (x : Int) < (n : Int) := by omega
      have zx : ((x : Int)).toNat = x := by omega
      have HJ3 := hid hJ3
      clear hJ3 hJ hy hR L3
      have HE := hid (show Dom.headI (L.drop (k + 1)) = Dom.headI (L.drop (k + 1)) from rfl)
      obtain ⟨Q, hQ⟩ : ∃ Q, Dom.headI (L.drop (k + 1)) = Q := ⟨_, rfl⟩
      rw [hQ] at t9 HM
      have HQ := hid hQ.symm
      clear hQ HE
      gi_wp2
      go_roundw
      case rel => exact ⟨k + 1, v3, by rw [HQ.out], hlt, HJ3⟩
      case measure => exact HM.out
set_option maxHeartbeats 8000000 in
/-- Where there is no such node it hands out nothing. -/
theorem pkids1_no (R g n cap : Nat) (i : Int) (w : World) (r : Loop) (hi : ¬ (0 ≤ i ∧ i < (n : Int))) (hn : n ≤ 1000000) (h1 : w.cell? ⟨R, 0, none⟩ = some (.slice (some ⟨g, 0, none⟩) n cap))
    (v0 : Value) (W0 : World) (hJ0 : LoopZ w r i R [] v0 W0) :
    CallsIn Fence.wide 2 Try.prog 92 #[.func (.yield (w.heap.size + 4)) #[] #[], .pointer (some ⟨w.heap.size + 1, 0, none⟩), .pointer (some ⟨w.heap.size + 2, 0, none⟩)] W0 fun e W' => (∃ v, e = .returned v) ∧ ∃ v, LoopZ w r i R [] v W' := by
  have q0 := hJ0.bi.cell 0
  have q1 := hJ0.bt.cell 0
  simp only [List.getElem?_toArray, List.getElem?_cons_zero] at q0 q1
  have HJ0 := hid hJ0
  have l1 := cell_up h1 hJ0.below
  have HH := phas_any W0 R g n cap i l1 hn
  rw [decide_eq_false hi] at HH
  have HH := hid HH
  clear hJ0
  refine callsIn_of_wp Try.func92 rfl trivial ?_ rfl
  simp only [Try.ntmps92, List.size_toArray, List.length_cons, List.length_nil, Nat.reduceAdd, Nat.reduceSub, Array.replicate_succ, Array.replicate_zero, List.push_toArray, List.append_toArray, List.nil_append, List.cons_append]
  gi_wp2
  refine ⟨trivial, ?_⟩
  refine (callsIn_wide.2 HH.out).mono ?_
  rintro e W2 ⟨rfl, rfl⟩
  gi_wp2
  refine bodyPost_ret (v := .tuple #[]) (by simp [results, Try.results92, go_sem]) rfl ?_
  exact ⟨⟨_, rfl⟩, v0, HJ0.out⟩
attribute [local go_sem] Oper.semAt_some
set_option maxHeartbeats 8000000 in
/-- Kids, over what its range tells. -/
theorem pkids_over (w : World) (R : Nat) (i : Int) (L : List Nat) (hlen : L.length ≤ 1000000)
    (hS : ∀ (r : Loop), (∀ (k x : Nat) (v : Value) (W : World), LoopZ w r i R (L.take k) v W → L[k]? = some x → YieldAt Fence.wide (2 - 1) Try.prog (w.heap.size + 4) #[.int .i64 x] W fun e W' => e = .returned (.bool true) ∧ ∃ v', LoopZ w r i R (L.take (k + 1)) v' W') → ∀ (v0 : Value) (W0 : World), LoopZ w r i R [] v0 W0 →
      CallsIn Fence.wide 2 Try.prog 92 #[.func (.yield (w.heap.size + 4)) #[] #[], .pointer (some ⟨w.heap.size + 1, 0, none⟩), .pointer (some ⟨w.heap.size + 2, 0, none⟩)] W0 fun e W' => (∃ v, e = .returned v) ∧ ∃ v, LoopZ w r i R L v W') :
    Calls Try.prog 54 #[.pointer (some ⟨R, 0, none⟩), .int .i64 i] w fun e w' => NewZO w w' e L ∧ Below w.heap.size w w' := by
  refine (callsIn_wide (n := 3)).1 ?_
  refine callsIn_of_wp_marks Try.func54 rfl trivial ?_ rfl
  simp only [Try.ntmps54, List.size_toArray, List.length_cons, List.length_nil, Nat.reduceAdd, Nat.reduceSub, Array.replicate_succ, Array.replicate_zero, List.push_toArray, List.append_toArray, List.nil_append, List.cons_append]
  gi_wp2
  refine ⟨trivial, ?_⟩
  refine (callsIn_wide.2 (pkidsf_any R i _)).mono ?_
  rintro e w' ⟨rfl, rfl⟩
  gi_wp2
  obtain ⟨W0, hW0⟩ : ∃ W0, ((w.alloc (.cells #[.slice none 0 0] 79)).alloc (.cells #[.pointer (some ⟨R, 0, none⟩)] 46)).alloc (.cells #[.int .i64 i] 3) = W0 := ⟨_, rfl⟩
  have hs0 : W0.heap.size = w.heap.size + 3 := by rw [← hW0]; simp
  have C0 : BlkW W0 w.heap.size #[.slice none 0 0] 79 := by rw [← hW0]; exact ((BlkW.new w _ _).alloc _).alloc _
  have C1 : BlkW W0 (w.heap.size + 1) #[.pointer (some ⟨R, 0, none⟩)] 46 := by
    rw [← hW0]
    have := BlkW.new (w.alloc (.cells #[.slice none 0 0] 79)) #[.pointer (some ⟨R, 0, none⟩)] 46
    rw [World.size_alloc] at this
    exact this.alloc _
  have C2 : BlkW W0 (w.heap.size + 2) #[.int .i64 i] 3 := by
    rw [← hW0]
    have := BlkW.new ((w.alloc (.cells #[.slice none 0 0] 79)).alloc (.cells #[.pointer (some ⟨R, 0, none⟩)] 46)) #[.int .i64 i] 3
    rwa [World.size_alloc, World.size_alloc] at this
  have cb : Below w.heap.size w W0 := by rw [← hW0]; exact (((Below.refl _ w).alloc (Nat.le_refl _) _).alloc (by simp) _).alloc (by simp; omega) _
  rw [hW0]
  clear hW0
  refine range_at2 (F := Fence.wide) rfl (fun h => by simp [Fence.wide] at h) (gf := 92) (lb := #[.pointer (some ⟨w.heap.size + 1, 0, none⟩), .pointer (some ⟨w.heap.size + 2, 0, none⟩)]) rfl trivial (enters_of Try.func92 (by kernel_rfl) rfl) fun fn _ => ?_
  rw [hs0]
  generalize hr : recOf _ _ _ _ _ _ LoopState.ready = r
  have hY : ∀ (k x : Nat) (v : Value) (W : World), LoopZ w r i R (L.take k) v W → L[k]? = some x → YieldAt Fence.wide (2 - 1) Try.prog (w.heap.size + 4) #[.int .i64 x] W fun e W' => e = .returned (.bool true) ∧ ∃ v', LoopZ w r i R (L.take (k + 1)) v' W' := by
    intro k x v W hJ hx
    have hst : r.state = .ready := by rw [← hr]; rfl
    have hpe : r.pending = none := by rw [← hr]; rfl
    have hfn : Fence.wide.fn r.fn := trivial
    have ha := congrArg Loop.assign hr
    have hb := congrArg Loop.body hr
    have hpp := congrArg Loop.params hr
    have htm := congrArg Loop.tmps hr
    dsimp only [recOf] at ha hb hpp htm
    refine round_at2 hJ.rcd hst hpe (by rw [← hpp]; rfl) hfn ?_
    rw [← ha, ← hb, ← hpp, ← htm]
    clear ha hb hpp htm hr
    gi_wp2
    refine ⟨hJ.rcd, ?_⟩
    have J2 := hJ.busy (busyR r)
    obtain ⟨W3, hW3⟩ : ∃ W3, W.putObj (w.heap.size + 4) (.loop (busyR r)) = W3 := ⟨_, rfl⟩
    rw [hW3] at J2 ⊢
    have htk : L.take (k + 1) = L.take k ++ [x] := by
      rw [List.take_add_one, hx]
      rfl
    rw [htk]
    have hle : (L.take k).length + 1 ≤ 1000000000 := by rw [List.length_take]; omega
    generalize L.take k = A at *
    obtain ⟨a0, c0, hv0, _⟩ := own_isZ J2.own
    have u0 := J2.box.cell 0
    have f0 := J2.box.free 0
    simp only [List.getElem?_toArray, List.getElem?_cons_zero] at u0
    have HJ2 := hid J2
    have N3 := hid (show (W3.alloc (.cells #[.int .i64 (x : Nat)] 3)).cell? ⟨W3.heap.size, 0, none⟩ = some (.int .i64 (x : Nat)) from (BlkW.new W3 #[.int .i64 (x : Nat)] 3).cell 0)
    have O3 := hid (own_below J2.own (w' := W3.alloc (.cells #[.int .i64 (x : Nat)] 3)) ((Below.refl _ W3).alloc (Nat.le_refl _) _))
    have S3 := hid (show w.heap.size + 5 ≤ (W3.alloc (.cells #[.int .i64 (x : Nat)] 3)).heap.size by have := J2.lt; rw [World.size_alloc]; omega)
    clear hJ J2 hW3 htk hx
    subst hv0
    have X3 := hid (HJ2.out.box.alloc (.cells #[.int .i64 (x : Nat)] 3))
    have NV := hid (show some w.heap.size ≠ (Value.slice a0 A.length c0).ownBlock from fun e => by have := own_ge HJ2.out.own _ e.symm; omega)
    gi_wp2_with (gi_at_builtin; refine appendIn_Z rfl _ _ rfl (w.heap.size + 5) _ A rfl O3.out ⟨W3.heap.size, 0, none⟩ 1 x rfl N3.out hle S3.out ?_; intro v' w' hown2 hgr2 hloc; have HE := hid (HJ2.out.add x hown2 hgr2); have hX4 := X3.out.grow hgr2 NV.out; have p1 := hX4.cell 0; have f1 := hX4.free 0; simp only [List.getElem?_toArray, List.getElem?_cons_zero] at p1; obtain ⟨xa, xc, hve, _⟩ := own_isZ hown2; obtain ⟨xl, hxl⟩ : ∃ xl, (A ++ [x]).length = xl := ⟨_, rfl⟩; rw [hxl] at hve; subst hve; clear hown2 hgr2 hloc hX4 hxl)
    exact ⟨HE.out.rcd, rfl, _, HE.out.busy r⟩
  refine (hS r hY (.slice none 0 0) _ ?_).mono ?_
  · have d1 := heap_alloc_new W0 (.deferred (some []))
    have d2 := heap_alloc_new (W0.alloc (.deferred (some []))) (.loop r)
    rw [World.size_alloc, hs0] at d2
    rw [hs0] at d1
    exact ⟨d2, (Below.heap_alloc _ _ _ (by rw [World.size_alloc]; omega)).trans d1, (C0.alloc _).alloc _, (C1.alloc _).alloc _, (C2.alloc _).alloc _, World.ownsRow_nil _ _ _ _, (cb.alloc cb.size _).alloc (cb.alloc cb.size _).size _⟩
  · rintro e W ⟨hv, v, hJ⟩
    refine ⟨hv, .inl ⟨hJ.rcd, ?_⟩⟩
    generalize recOf _ _ _ _ _ _ LoopState.exhausted = rx
    have J9 := hJ.busy rx
    change LoopZ w rx i R L v (W.putObj (w.heap.size + 3 + 1) (.loop rx)) at J9
    obtain ⟨W9, hW9⟩ : ∃ W9, W.putObj (w.heap.size + 3 + 1) (.loop rx) = W9 := ⟨_, rfl⟩
    rw [hW9] at J9 ⊢
    have u1 := J9.box.cell 0
    have HD := hid J9.dfr
    have HO := hid J9.own
    have HR := hid J9.below
    have HLT := hid J9.lt
    simp only [List.getElem?_toArray, List.getElem?_cons_zero] at u1
    obtain ⟨a1, c1, hv1, _⟩ := own_isZ J9.own
    subst hv1
    clear hJ hY hr hW9 J9 hS
    gi_wp2
    refine ⟨by simp, .inl ⟨_, _, rfl, run_takeDeferred HD.out, ?_⟩⟩
    refine ⟨_, results_tmp rfl _ _ _, ?_⟩
    have O2 := own_keep (w' := W9.putObj (w.heap.size + 3) (.deferred none)) HO.out fun g hg => World.putObj_heap_other (by have := own_ge HO.out g hg; omega)
    obtain ⟨a2, c2, e2, z1, z2, _, z3, z4⟩ := own_isZ O2
    injection e2 with e2 _ e3
    subst e2
    subst e3
    exact ⟨⟨_, _, rfl, z1, fun y hy => by have := z3 y hy; omega, z4, own_blk O2⟩, HR.out.grown (grownBy_putObj' _ _ _) HR.out.size (fun k e => by cases e; omega)⟩
/-- Kids: the numbers of the kids, in new memory. -/
theorem pkids_any (w : World) (base R g cap : Nat) (S : Nat → Prop) (rs : List PR) (t : Dom.T) (i : Int) (h : ReadK w base R S g cap rs t) (hG : Dom.Good t) :
    Calls Try.prog 54 #[.pointer (some ⟨R, 0, none⟩), .int .i64 i] w fun e w' => NewZO w w' e (Dom.kidsT t i) ∧ Below w.heap.size w w' := by
  unfold Dom.kidsT
  by_cases g1 : Dom.there t i
  · rw [if_pos g1]
    obtain ⟨p, rfl⟩ : ∃ p : Nat, i = p := ⟨i.toNat, by have := g1.1; omega⟩
    have hp : p < t.length := by have := g1.2; omega
    rw [show ((p : Int)).toNat = p by omega]
    exact pkids_over w R p _ (Nat.le_trans (good_few hG p) h.few) fun r hY v0 W0 hJ => pkids1_any R g t.length cap p _ w r hp h.few (hG.nodup p) (h.links hG hp) hY v0 W0 hJ
  · rw [if_neg g1]
    exact pkids_over w R i [] (Nat.zero_le _) fun r hY v0 W0 hJ => pkids1_no R g t.length cap i w r g1 h.few h.top v0 W0 hJ
end Go.Proofs.Ytlgmjnnfndedbaa
