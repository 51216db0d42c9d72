/- Walks over the program's package marks: Clear. -/
import Derived.Test.YtmgbjkekfejnfaaMarkIs
import Derived.Test.YtmgbjkekfejnfaaMarkIt
import Derived.Test.YtmgbjkekfejnfaaLoopM
import Derived.Test.YtmgbjkekfejnfaaMarkRn
import Derived.Test.YtmgbjkekfejnfaaMarkLo
import Derived.OwnWalkIn
namespace Go.Proofs.Ytmgbjkekfejnfaa
open Go.RowKit Go.Lib
set_option maxRecDepth 100000
set_option linter.unusedVariables false
/-- 'append(own, x...)', own the call's own row of marks, x whatever row, within a fence. -/
theorem append_msIn {F : Fence} {nF : Nat} {w : World} {ops : Array Oper} {rest : List Oper} {o : Oper} {a : Act} {Q : Exit → Act → World → Prop} (hgd : o.guard = none) (s y : Operand)
    (ho : o.op = .call { callee := .builtin .append, args := #[s, y], argTypes := #[22, 22] })
    (base : Nat) (v : Value) (acc : List MR) (hs : a.eval s = v) (hown : w.ownsRow base 25 3 v acc.length (mL acc))
    (ad : Addr) (m c : Nat) (new : List MR) (hx : a.eval y = .slice (some ad) m c) (hS : RowM w (some ad) m new) (hm0 : m ≤ c)
    (hlen : acc.length + m ≤ 4294967296) (hbase : base ≤ w.heap.size)
    (h : ∀ v' w', w'.ownsRow base 25 3 v' (acc ++ new).length (mL (acc ++ new)) → w.grownBy w' v.ownBlock → wpListIn F nF Try.prog ops Q rest (a.put o.dst v') w') : wpListIn F nF Try.prog ops Q (o :: rest) a w := by
  obtain ⟨i0, hi, hz0, hz1, hz2⟩ := info_parts info_mark
  refine wpListIn_append_own w hgd s y 22 ho base 25 i0 (.agg #[.int .i64 0, .string ⟨#[]⟩, .slice none 0 0]) 3 48 Try.underlying22 hi hz0 hz1 hz2 rfl (by decide) v acc.length (mL acc) hs hown ad m c (mL new) hx (by rw [mL_len, hS.1]) ?_ (mL_one new) (by unfold maxLen; omega) (by omega) hbase ?_
  · intro j u hj
    obtain ⟨i, r, hr, hu⟩ := mL_at new j u hj
    obtain ⟨hll, h0 | ⟨b', off', e, hat⟩⟩ := hS
    · have := (List.getElem?_eq_some_iff.1 hr).1
      omega
    · cases e
      rw [addr_add]
      obtain ⟨c0, c1, c2⟩ := hat i r hr
      rcases hu with ⟨rfl, rfl⟩ | ⟨rfl, rfl⟩ | ⟨rfl, rfl⟩
      · exact c0
      · rw [← Nat.add_assoc]; exact c1
      · rw [← Nat.add_assoc]; exact c2
  · intro v' w' h1 h2 _
    refine h v' w' ?_ h2
    rw [List.length_append, mL_append, hS.1]
    exact h1
/-- A row of marks that may be written, no older than base. -/
structure NewR (W : World) (B : Nat) (a : Option Addr) (n c : Nat) (rs : List MR) : Prop where
  row : RowM W a n rs
  new : NewB W B 25 a n
  cap : n ≤ c
  cap2 : c ≤ 9223372036854775807
  nil : a = none → c = 0
theorem NewR.keep {W W' : World} {B : Nat} {a : Option Addr} {n c : Nat} {rs : List MR} (h : NewR W B a n c rs) (hk : ∀ b, B ≤ b → b < W.heap.size → W'.heap[b]? = W.heap[b]?) : NewR W' B a n c rs := by
  obtain ⟨hr, hn, h1, h2, h3⟩ := h
  by_cases h0 : n = 0
  · exact ⟨⟨hr.1, .inl h0⟩, .inl h0, h1, h2, h3⟩
  · obtain ⟨b, off, cs, rfl, hB, hb⟩ := hn.resolve_left h0
    have hB' : BlkW W' b cs 25 := (hk b hb hB.lt).trans hB
    refine ⟨⟨hr.1, .inr ⟨b, off, rfl, fun i r hi => ?_⟩⟩, .inr ⟨b, off, cs, rfl, hB', hb⟩, h1, h2, h3⟩
    obtain ⟨c0, c1, c2⟩ := hr.at_ hi
    rw [hB.cell] at c0 c1 c2
    exact ⟨(hB'.cell _).trans c0, (hB'.cell _).trans c1, (hB'.cell _).trans c2⟩
theorem NewR.mono {W : World} {B B' : Nat} {a : Option Addr} {n c : Nat} {rs : List MR} (h : NewR W B a n c rs) (hB : B' ≤ B) : NewR W B' a n c rs :=
  ⟨h.row, h.new.imp id (fun ⟨b, o, cs, q1, q2, q3⟩ => ⟨b, o, cs, q1, q2, by omega⟩), h.cap, h.cap2, h.nil⟩
theorem newM_nil (w w' : World) : NewM w w' (.returned (.slice none 0 0)) [] := ⟨none, 0, [], rfl, ⟨⟨rfl, .inl rfl⟩, AttsM.nil w', by show (0 : Nat) ≤ _; omega, Nat.le_refl _, by omega⟩, .inl rfl, fun _ => rfl⟩
theorem NewR.mk_ {w W : World} {B : Nat} {a : Option Addr} {c : Nat} {rs : List MR} {ys : List Mk.M} (h : NewR W B a ys.length c rs) (hB : w.heap.size ≤ B) (hA : AttsM w rs ys) (hb : Below w.heap.size w W) (hl : ys.length ≤ 4294967296) : NewM w W (.returned (.slice a ys.length c)) ys :=
  ⟨a, c, rs, rfl, ⟨h.row, hA.below hb, hl, h.cap, h.cap2⟩, h.new.imp id (fun ⟨b, o, cs, q1, q2, q3⟩ => ⟨b, o, cs, q1, q2, by omega⟩), h.nil⟩
/-- The blocks while Clear looks: the list, the answer, the list. -/
def clB (s : Nat) (lv v : Value) : Blocks := [(s, #[lv], 22), (s + 1, #[v], 22), (s + 2, #[lv], 22)]
theorem clB_all {s : Nat} {lv v : Value} {p : Nat × Array Value × TypeId → Prop} (h0 : p (s, #[lv], 22)) (h1 : p (s + 1, #[v], 22)) (h2 : p (s + 2, #[lv], 22)) : ∀ x ∈ clB s lv v, p x := fun x hx => by
  simp only [clB, List.mem_cons, List.not_mem_nil, or_false] at hx
  rcases hx with rfl | rfl | rfl
  · exact h0
  · exact h1
  · exact h2
theorem clB_set {w W : World} {r : Loop} {lv v : Value} (h : LoopM w (w.heap.size + 3) r (clB w.heap.size lv v) W) (u : Value) : LoopM w (w.heap.size + 3) r (clB w.heap.size lv u) (W.setCell ⟨w.heap.size + 1, 0, none⟩ u) := by
  refine h.set_ (w.heap.size + 1) 0 u _ (by omega) (clB_all (.inl ⟨by show w.heap.size ≠ _; omega, by simp [clB]⟩) (.inr ⟨rfl, #[v], by simp [clB], rfl⟩) (.inl ⟨by show w.heap.size + 2 ≠ _; omega, by simp [clB]⟩))
def ClearE (w : World) (r : Loop) (lv : Value) (ys : List Mk.M) (W : World) : Prop := ∃ a c rs, LoopM w (w.heap.size + 3) r (clB w.heap.size lv (.slice a ys.length c)) W ∧ NewR W (w.heap.size + 5) a ys.length c rs ∧ AttsM w rs ys ∧ ys.length ≤ 4294967296
attribute [local go_sem] Oper.semAt_some
set_option maxHeartbeats 8000000 in
theorem pclear_any (a : Option Addr) (n c : Nat) (rs : List MR) (xs : List Mk.M) (w : World) (h : MarksIn a n c rs xs w) (hsh : ShortN xs) :
    Calls Try.prog 13 #[.slice a n c] w fun e w' => NewM w w' e (Mk.clearL xs) ∧ Below w.heap.size w w' := by
  have hf := h.few
  have hln := h.len
  have hc1 := h.cap
  have hc2 := h.cap2
  obtain ⟨N, hN⟩ : ∃ N, Mk.behind xs n = N := ⟨_, rfl⟩
  have HCL := hid (show Mk.clearL xs = xs.take (N - 1) by unfold Mk.clearL; rw [hln, hN])
  obtain ⟨ys, hys⟩ : ∃ ys, Mk.clearL xs = ys := ⟨_, rfl⟩
  rw [hys] at HCL ⊢
  have HH := hid h
  have HSH := hid hsh
  have HR := hid hN
  clear h hys hN hsh
  obtain ⟨lv, hlv⟩ : ∃ lv : Value, lv = .slice a n c := ⟨_, rfl⟩
  have HLV := hid hlv
  obtain ⟨W1, hW1⟩ : ∃ W1, (w.alloc (.cells #[.slice a n c] 22)).alloc (.cells #[.slice none 0 0] 22) = W1 := ⟨_, rfl⟩
  have b1 : Below w.heap.size w W1 := by rw [← hW1]; exact ((Below.refl _ w).alloc (Nat.le_refl _) _).alloc (by simp) _
  have s1 : W1.heap.size = w.heap.size + 2 := by rw [← hW1]; simp
  have B0 : BlkW W1 w.heap.size #[lv] 22 := by rw [← hW1, hlv]; exact (BlkW.new w _ _).alloc _
  have B1 : BlkW W1 (w.heap.size + 1) #[.slice none 0 0] 22 := by
    rw [← hW1]
    have := BlkW.new (w.alloc (.cells #[.slice a n c] 22)) #[.slice none 0 0] 22
    rwa [World.size_alloc] at this
  have HB := hid (And.intro B0 (And.intro B1 (And.intro b1 s1)))
  have HW := hid hW1
  clear B0 B1 b1 s1 hW1 hlv
  refine (callsIn_wide (n := 3)).1 ?_
  refine callsIn_of_wp_marks Try.func13 rfl trivial ?_ rfl
  simp only [Try.ntmps13, List.size_toArray, List.length_cons, List.length_nil, Nat.reduceAdd, Nat.reduceSub, Array.replicate_succ, Array.replicate_zero, List.push_toArray, List.append_toArray, List.nil_append, List.cons_append]
  refine wpIn_wide.2 ?_
  go_wp2_with fail
  refine (mbackward_any a n c _).mono ?_
  rintro e w' ⟨rfl, rfl⟩
  rw [HW.out, ← HLV.out]
  obtain ⟨D0, D1, db, ds⟩ := HB.out
  obtain ⟨W0, hW0⟩ : ∃ W0, W1.alloc (.cells #[lv] 22) = W0 := ⟨_, rfl⟩
  have C2 := BlkW.new W1 #[lv] 22
  rw [ds] at C2
  have C0 := D0.alloc (.cells #[lv] 22)
  have C1 := D1.alloc (.cells #[lv] 22)
  have cb := db.alloc db.size (.cells #[lv] 22)
  have cs0 : (W1.alloc (.cells #[lv] 22)).heap.size = w.heap.size + 3 := by rw [World.size_alloc, ds]
  rw [hW0] at C0 C1 C2 cb cs0 ⊢
  rw [ds]
  have HC := hid (And.intro C0 (And.intro C1 (And.intro C2 (And.intro cb cs0))))
  clear D0 D1 db ds hW0 C0 C1 C2 cb cs0 HB HW
  go_wp2_with fail
  refine (wpIn_wide (n := 3)).1 ?_
  refine range_at3 (F := Fence.wide) rfl (fun h => by simp [Fence.wide] at h) (gf := 35) (lb := #[.pointer (some ⟨w.heap.size + 2, 0, none⟩)]) rfl trivial (enters_of Try.func35 (by kernel_rfl) rfl) fun fn _ => ?_
  obtain ⟨C0, C1, C2, cb, cs0⟩ := HC.out
  have HST := hid fun r => LoopM.start (w := w) (W := W0) (bl := clB w.heap.size lv (.slice none 0 0)) r (clB_all C0 C1 C2) (clB_all (Nat.le_refl _) (Nat.le_add_right _ _) (Nat.le_add_right _ _)) cb
  rw [cs0] at HST ⊢
  clear C0 C1 C2 cb cs0 HC
  generalize hr : recOf _ _ _ _ _ _ LoopState.ready = r
  have hY : ∀ (k : Nat) (y : MR) (W : World), rs[k]? = some y → (LoopM w (w.heap.size + 3) r (clB w.heap.size lv (.slice none 0 0)) W ∧ Mk.behind xs (k + 1) = N) →
      YieldAt Fence.wide (2 - 1) Try.prog (w.heap.size + 3 + 1) #[.int .i64 k, .agg #[.int .i64 y.id, .string (bs y.name), .slice y.aa y.an y.ac]] W fun e W' => (e = .returned (.bool true) ∧ LoopM w (w.heap.size + 3) r (clB w.heap.size lv (.slice none 0 0)) W' ∧ Mk.behind xs k = N) ∨
        (e = .returned (.bool false) ∧ ClearE w (leftJ r .ret) lv ys W') := by
    rintro k y W hy ⟨hJ, hV⟩
    have hst : r.state = .ready := by rw [← hr]; rfl
    have hpe : r.pending = none := by rw [← hr]; rfl
    have hfn : Fence.wide.fn r.fn := trivial
    have ha := congrArg Loop.assign hr
    have hb := congrArg Loop.body hr
    have hpp := congrArg Loop.params hr
    have htm := congrArg Loop.tmps hr
    dsimp only [recOf] at ha hb hpp htm
    refine round_at3 hJ.rcd hst hpe (by rw [← hpp]; rfl) hfn ?_
    rw [← ha, ← hb, ← hpp, ← htm]
    clear ha hb hpp htm hr hst hpe hfn
    have hkn : k < n := by have := HH.out.row.1; have := (List.getElem?_eq_some_iff.1 hy).1; omega
    obtain ⟨x, hx⟩ : ∃ x, xs[k]? = some x := ⟨_, List.getElem?_eq_getElem (by omega)⟩
    rw [Mk.behind_step hx] at hV
    have f := HH.out.atts.2 k y x hy hx
    rw [← f.id] at hV
    -- the mark in a block of its own
    have A1 := hJ.up ((Below.refl W.heap.size W).alloc (Nat.le_refl _) (.cells #[.int .i64 y.id, .string (bs y.name), .slice y.aa y.an y.ac] 25))
    have cE := BlkW.new W #[.int .i64 y.id, .string (bs y.name), .slice y.aa y.an y.ac] 25
    have sE : W.heap.size ≠ w.heap.size + 3 + 1 := by
      have := hJ.size
      omega
    have HV := hid hV
    clear hJ hV f hx hy
    gi_wp2
    refine ⟨A1.rcd, ?_⟩
    have J2 := A1.busy (busyR r)
    have cE2 : BlkW ((W.alloc (.cells #[.int .i64 y.id, .string (bs y.name), .slice y.aa y.an y.ac] 25)).putObj (w.heap.size + 3 + 1) (.loop (busyR r))) W.heap.size #[.int .i64 y.id, .string (bs y.name), .slice y.aa y.an y.ac] 25 := (World.putObj_heap_other sE).trans cE
    obtain ⟨W3, hW3⟩ : ∃ W3, (W.alloc (.cells #[.int .i64 y.id, .string (bs y.name), .slice y.aa y.an y.ac] 25)).putObj (w.heap.size + 3 + 1) (.loop (busyR r)) = W3 := ⟨_, rfl⟩
    rw [hW3] at J2 cE2 ⊢
    have HMK := hid (marker_any y.id (bs y.name) y.aa y.an y.ac W3)
    have e0 := cE2.cell 0
    have e1 := cE2.cell 1
    have e2 := cE2.cell 2
    simp only [List.getElem?_toArray, List.getElem?_cons_zero, List.getElem?_cons_succ] at e0 e1 e2
    have HJ2 := hid J2
    obtain ⟨B, hB⟩ : ∃ B, W.heap.size = B := ⟨_, rfl⟩
    rw [hB] at e0 e1 e2 ⊢
    clear J2 A1 cE cE2 hW3 sE hB
    gi_wp2
    refine ⟨trivial, ?_⟩
    refine (callsIn_wide.2 HMK.out).mono ?_
    rintro e W4 ⟨rfl, b4⟩
    have HJ4 := hid (HJ2.out.up b4)
    clear HJ2 HMK e0 e1 e2 b4
    by_cases hneg : y.id < 0
    · have d1 : decide (y.id < 0) = true := decide_eq_true hneg
      have HE := hid (show N = k + 1 by rw [← HV.out, if_pos hneg])
      clear hneg HV
      obtain ⟨_, h9 | ⟨blk, off, rfl, _⟩⟩ := HH.out.row
      · omega
      have u0 : W4.cell? ⟨w.heap.size, 0, none⟩ = some lv := (HJ4.out.at_ 0 (show (w.heap.size, #[lv], (22 : TypeId)) ∈ clB w.heap.size lv (.slice none 0 0) by simp [clB])).trans rfl
      rw [HLV.out] at u0
      have HRK := hid ((HH.out.row.below HJ4.out.below).take (show k ≤ n by omega))
      have hK1 : (k : Int) ≤ (c : Int) := by omega
      have hK0 : (0 : Int) ≤ (k : Int) := by omega
      have hKc : k ≤ c := by omega
      gi_wp2_with (gi_at_builtin; refine append_msIn rfl _ _ rfl W4.heap.size _ [] rfl (World.ownsRow_nil _ _ _ _) ⟨blk, off, none⟩ k c (rs.take k) rfl HRK.out hKc (by simp; omega) (Nat.le_refl _) ?_; intro v' w' o1 g1; have BB := hid ((Below.refl W4.heap.size W4).grown g1 (Nat.le_refl _) (own_ge (World.ownsRow_nil W4 W4.heap.size 25 3))); obtain ⟨a', c', hv', hr', h1', h2', h3', h4'⟩ := own_rowM (l := rs.take k) (by simpa using o1); subst hv'; clear o1 g1)
      have hk0 := HRK.out.1
      rw [hk0] at hr' h1' h3'
      have hmin : min k n = k := by omega
      rw [hmin]
      have h4s : w.heap.size + 5 ≤ W4.heap.size := by have := HJ4.out.size; omega
      have hA4 := (HH.out.atts.take k).below HJ4.out.below
      refine ⟨trivial, ?_⟩
      refine (callsIn_wide.2 (prenew_any W4 w' a' k c' (rs.take k) (xs.take k) hr' hA4 BB.out h3' h1' (by unfold maxLen at h2'; omega) (by omega) (fun x hx => HSH.out x (List.mem_of_mem_take hx)))).mono ?_
      rintro e W7 ⟨rfl, hM7, hN7, hB7⟩
      have J7 := HJ4.out.up hB7
      have u1 := J7.at_ 0 (show (w.heap.size + 1, #[Value.slice none 0 0], (22 : TypeId)) ∈ clB w.heap.size lv (.slice none 0 0) by simp [clB])
      have u2 := J7.free 0 (show (w.heap.size + 1, #[Value.slice none 0 0], (22 : TypeId)) ∈ clB w.heap.size lv (.slice none 0 0) by simp [clB])
      simp only [List.getElem?_toArray, List.getElem?_cons_zero] at u1
      have hyl : ys.length = k := by rw [HCL.out, HE.out, List.length_take]; omega
      have HA := hid (clB_set J7 (.slice a' k c'))
      have HNR := hid (show NewR W7 W4.heap.size a' k c' ((rs.take k).map cutR) from ⟨hM7.row, hN7, h1', by unfold maxLen at h2'; omega, h4'⟩)
      have HCE := hid (show ClearE w (leftJ r .ret) lv ys ((W7.setCell ⟨w.heap.size + 1, 0, none⟩ (.slice a' k c')).putObj (w.heap.size + 3 + 1) (.loop (leftJ r .ret))) by
        refine ⟨a', c', (rs.take k).map cutR, by rw [hyl]; exact HA.out.busy _, ?_, ?_, by omega⟩
        · rw [hyl]
          refine (HNR.out.keep fun b hb _ => ?_).mono h4s
          rw [World.putObj_heap_other (by omega), Below.heap_setCell _ _ _ _ (show b ≠ w.heap.size + 1 by omega)]
        · rw [HCL.out, HE.out]
          exact (HH.out.atts.take k).cut)
      clear J7 hM7 hN7 hB7 hr' hA4 h3' HNR hyl u0 hmin
      gi_wp2
      exact ⟨HA.out.rcd, .inr ⟨rfl, HCE.out⟩⟩
    · have d1 : decide (y.id < 0) = false := decide_eq_false hneg
      have HV2 := hid (show Mk.behind xs k = N by rw [← HV.out, if_neg hneg])
      clear hneg HV
      gi_wp2
      exact ⟨HJ4.out.rcd, .inl ⟨rfl, HJ4.out.busy r, HV2.out⟩⟩
  refine (mbacks_any a n c rs w HH.out.row hf (w.heap.size + 3 + 1) ⟨w.heap.size + 2, 0, none⟩ (fun k W => LoopM w (w.heap.size + 3) r (clB w.heap.size lv (.slice none 0 0)) W ∧ Mk.behind xs k = N)
    (fun W' => ClearE w (leftJ r .ret) lv ys W') (fun k W hJ => ⟨hJ.1.below, by rw [← HLV.out]; exact (hJ.1.at_ 0 (show (w.heap.size + 2, #[lv], (22 : TypeId)) ∈ clB w.heap.size lv (.slice none 0 0) by simp [clB])).trans rfl⟩) hY _ ⟨HST.out r, HR.out⟩).mono ?_
  rintro e W ⟨hv, ⟨hJ, hVx⟩ | ⟨a', c', rs', hJ, hNR, hA, hyl⟩⟩
  · refine ⟨hv, .inl ⟨hJ.rcd, ?_⟩⟩
    have J9 := hJ.busy (overR r)
    obtain ⟨W9, hW9⟩ : ∃ W9, W.putObj (w.heap.size + 3 + 1) (.loop (overR r)) = W9 := ⟨_, rfl⟩
    rw [hW9] at J9 ⊢
    have u1 := J9.at_ 0 (show (w.heap.size + 1, #[Value.slice none 0 0], (22 : TypeId)) ∈ clB w.heap.size lv (.slice none 0 0) by simp [clB])
    have u2 := J9.free 0 (show (w.heap.size + 1, #[Value.slice none 0 0], (22 : TypeId)) ∈ clB w.heap.size lv (.slice none 0 0) by simp [clB])
    simp only [List.getElem?_toArray, List.getElem?_cons_zero] at u1
    have HSA := hid (clB_set J9 (.slice none 0 0))
    have hys : ys = [] := by rw [HCL.out, ← hVx]; rfl
    have HY := hid hys
    clear hY hr hJ hW9 J9 hVx hys
    go_wp2_with fail
    refine ⟨by simp, .inl ⟨_, _, rfl, run_takeDeferred HSA.out.dfr, ?_⟩⟩
    have u4 := ((HSA.out.shut.1 _ (show (w.heap.size + 1, #[Value.slice none 0 0], (22 : TypeId)) ∈ clB w.heap.size lv (.slice none 0 0) by simp [clB])).cell 0)
    simp only [List.getElem?_toArray, List.getElem?_cons_zero] at u4
    refine ⟨.slice none 0 0, by simp [results, Try.results13, go_sem, u4], ?_⟩
    exact ⟨by rw [HY.out]; exact newM_nil _ _, HSA.out.shut.2⟩
  · refine ⟨hv, .inr ⟨_, hJ.rcd, ?_⟩⟩
    have J9 := hJ.busy (overR (leftJ r .ret))
    have hk : ∀ b, w.heap.size + 5 ≤ b → b < W.heap.size → ((W.putObj (w.heap.size + 3 + 1) (.loop (overR (leftJ r .ret)))).putObj (w.heap.size + 3) (.deferred none)).heap[b]? = W.heap[b]? := fun b hb _ => by
      rw [World.putObj_heap_other (by omega), World.putObj_heap_other (by omega)]
    have HNR := hid (hNR.keep hk)
    obtain ⟨W9, hW9⟩ : ∃ W9, W.putObj (w.heap.size + 3 + 1) (.loop (overR (leftJ r .ret))) = W9 := ⟨_, rfl⟩
    rw [hW9] at J9 HNR ⊢
    refine wpIn_wide.2 ?_
    have HSA := hid J9
    have HA := hid hA
    clear hY hr hJ hW9 J9 hA hNR hk
    go_wp2_with fail
    refine ⟨by simp, .inl ⟨_, _, rfl, run_takeDeferred HSA.out.dfr, ?_⟩⟩
    have u4 := ((HSA.out.shut.1 _ (show (w.heap.size + 1, #[Value.slice a' ys.length c'], (22 : TypeId)) ∈ clB w.heap.size lv (.slice a' ys.length c') by simp [clB])).cell 0)
    simp only [List.getElem?_toArray, List.getElem?_cons_zero] at u4
    refine ⟨.slice a' ys.length c', by simp [results, Try.results13, go_sem, u4], ?_⟩
    exact ⟨HNR.out.mk_ (by omega) HA.out HSA.out.shut.2 hyl, HSA.out.shut.2⟩
end Go.Proofs.Ytmgbjkekfejnfaa
