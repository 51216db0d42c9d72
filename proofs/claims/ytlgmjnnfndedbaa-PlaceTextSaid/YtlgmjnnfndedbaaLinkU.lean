/- Walks over the program's package dom: outwards, within. -/
import Derived.Test.YtlgmjnnfndedbaaLinkA
import Derived.Test.YtlgmjnnfndedbaaRangeL
namespace Go.Proofs.Ytlgmjnnfndedbaa
open Go.RowKit Go.Lib
set_option maxRecDepth 100000
set_option linter.unusedVariables false

/-- What lies in memory while 'within' goes outwards: the number that it looks for, its answer, the tree, the number that it set out from; then the loop. -/
structure LoopU (w : World) (r : Loop) (o id : Int) (R : Nat) (res : Bool) (W : World) : Prop where
  rcd : W.heap[w.heap.size + 5]? = some (.loop r)
  dfr : W.heap[w.heap.size + 4]? = some (.deferred (some []))
  bo : BlkW W w.heap.size #[.int .i64 o] 3
  br : BlkW W (w.heap.size + 1) #[.bool res] 4
  bt : BlkW W (w.heap.size + 2) #[.pointer (some ⟨R, 0, none⟩)] 46
  bi : BlkW W (w.heap.size + 3) #[.int .i64 id] 3
  below : Below w.heap.size w W
theorem LoopU.busy {w W : World} {r : Loop} {o id : Int} {R : Nat} {res : Bool} (h : LoopU w r o id R res W) (r' : Loop) : LoopU w r' o id R res (W.putObj (w.heap.size + 5) (.loop r')) := by
  have k : ∀ b, b ≠ w.heap.size + 5 → (W.putObj (w.heap.size + 5) (.loop r')).heap[b]? = W.heap[b]? := fun b hb => World.putObj_heap_other hb
  exact ⟨World.putObj_heap_same (Array.getElem?_eq_some_iff.1 h.rcd).1, (k _ (by omega)).trans h.dfr, (k _ (by omega)).trans h.bo, (k _ (by omega)).trans h.br, (k _ (by omega)).trans h.bt, (k _ (by omega)).trans h.bi,
    h.below.grown (grownBy_putObj' W (w.heap.size + 5) (.loop r')) h.below.size (fun k e => by cases e; omega)⟩
theorem LoopU.answer {w W : World} {r : Loop} {o id : Int} {R : Nat} {res : Bool} (h : LoopU w r o id R res W) (b : Bool) : LoopU w r o id R b (W.setCell ⟨w.heap.size + 1, 0, none⟩ (.bool b)) := by
  have k : ∀ c, c ≠ w.heap.size + 1 → (W.setCell ⟨w.heap.size + 1, 0, none⟩ (.bool b)).heap[c]? = W.heap[c]? := fun c hc => Below.heap_setCell _ _ _ _ hc
  exact ⟨(k _ (by omega)).trans h.rcd, (k _ (by omega)).trans h.dfr, (k _ (by omega)).trans h.bo, h.br.set_ 0 _, (k _ (by omega)).trans h.bt, (k _ (by omega)).trans h.bi, h.below.setCell (p := ⟨w.heap.size + 1, 0, none⟩) (by show w.heap.size ≤ w.heap.size + 1; omega) _⟩
/-- How far it is still to go. -/
def upM (rk : Nat → Nat) (p : Value) : Nat := match p with
  | .int _ x => if x = -1 then 0 else rk x.toNat + 1
  | _ => 0
theorem poutwards_any (R : Nat) (id : Int) (w : World) :
    Calls Try.prog 94 #[.pointer (some ⟨R, 0, none⟩), .int .i64 id] w fun e w' => e = .returned (.func (.func 98) #[] #[.pointer (some ⟨w.heap.size + 1, 0, none⟩), .pointer (some ⟨w.heap.size, 0, none⟩)]) ∧ w' = (w.alloc (.cells #[.pointer (some ⟨R, 0, none⟩)] 46)).alloc (.cells #[.int .i64 id] 3) := by
  go_enter Try.func94, Try.ntmps94
  go_wp2
  go_ret
  exact ⟨rfl, rfl⟩
set_option maxHeartbeats 8000000 in
/-- It hands out a node, and then what it stands in, until it is told to stop. -/
theorem pups_any (R g n cap : Nat) (rk : Nat → Nat) (t : Dom.T) (w : World) (r : Loop) (o : Int) (id : Nat) (hid0 : id < n) (hn : n = t.length) (hG : Dom.Good t) (hrk : ∀ k (p : Nat), Dom.parAt t k = (p : Nat) → rk p < rk k)
    (h1 : w.cell? ⟨R, 0, none⟩ = some (.slice (some ⟨g, 0, none⟩) n cap)) (h5 : ∀ i, i < n → w.cell? ⟨g, i * 10 + 5, none⟩ = some (.int .i64 (Dom.parAt t i)))
    (V : Int → Prop) (hV0 : V id) (hVl : ∀ x : Nat, V x → x < n)
    (hY : ∀ (x : Nat) (W : World), LoopU w r o id R false W → V x → YieldAt Fence.wide (2 - 1) Try.prog (w.heap.size + 5) #[.int .i64 x] W fun e W' => (e = .returned (.bool true) ∧ LoopU w r o id R false W' ∧ V (Dom.parAt t x)) ∨ (e = .returned (.bool false) ∧ LoopU w (leftR r) o id R true W' ∧ V (-2)))
    (W0 : World) (hJ0 : LoopU w r o id R false W0) :
    CallsIn Fence.wide 2 Try.prog 98 #[.func (.yield (w.heap.size + 5)) #[] #[], .pointer (some ⟨w.heap.size + 3, 0, none⟩), .pointer (some ⟨w.heap.size + 2, 0, none⟩)] W0 fun e W' => (∃ v, e = .returned v) ∧ ((LoopU w r o id R false W' ∧ V (-1)) ∨ (LoopU w (leftR r) o id R true W' ∧ V (-2))) := by
  have HY := hid hY
  have q0 := hJ0.bi.cell 0
  simp only [List.getElem?_toArray, List.getElem?_cons_zero] at q0
  have HJ0 := hid hJ0
  have H5 := hid fun (W : World) (hb : Below w.heap.size w W) (i : Nat) (hi : i < n) => cell_up (h5 i hi) hb
  have H1 := hid fun (W : World) (hb : Below w.heap.size w W) => cell_up h1 hb
  have HV := hid hV0
  have HVL := hid hVl
  have HG := hid hG
  have HRK := hid hrk
  clear hY hJ0 h5 h1 hV0 hVl hG hrk
  refine callsIn_of_wp Try.func98 rfl trivial ?_ rfl
  simp only [Try.ntmps98, List.size_toArray, List.length_cons, List.length_nil, Nat.reduceAdd, Nat.reduceSub, Array.replicate_succ, Array.replicate_zero, List.push_toArray, List.append_toArray, List.nil_append, List.cons_append]
  gi_wp2
  gi_loopw [4] (fun p wr => ∃ (x : Int), p = .int .i64 x ∧ (x = -1 ∨ ∃ k : Nat, x = k) ∧ Hid (V x) ∧ Hid (LoopU w r o id R false wr)) (fun p _ => upM rk p)
  case atStart => exact ⟨id, rfl, .inr ⟨id, rfl⟩, HV, HJ0⟩
  case round =>
    clear HJ0 q0
    obtain ⟨x, rfl, hx, hVx, hJ⟩ := hrel
    rcases hx with rfl | ⟨k, rfl⟩
    · have HD : Hid ((LoopU w r o id R false wr ∧ V (-1)) ∨ (LoopU w (leftR r) o id R true wr ∧ V (-2))) := hid (.inl ⟨hJ.out, hVx.out⟩)
      gi_wp2
      refine ⟨fun _ h => (by cases h), ?_⟩
      gi_wp2
      go_end0
      exact ⟨⟨_, rfl⟩, HD.out⟩
    · have hk := HVL.out k hVx.out
      have dk : ((k : Int) != -1) = true := by simp
      obtain ⟨fn, tmps, assign, body, hy, hR⟩ := HY.out k wr hJ.out hVx.out
      gi_wp2
      refine hR.mono ?_
      rintro e W3 (⟨rfl, hJ3, hV3⟩ | ⟨rfl, hJ3, hV3⟩)
      · have t0 := hJ3.bt.cell 0
        simp only [List.getElem?_toArray, List.getElem?_cons_zero] at t0
        have t1 := H1.out W3 hJ3.below
        have t5 := H5.out W3 hJ3.below k hk
        have hk3 : (k : Int) < (n : Int) := by omega
        have zk : ((k : Int)).toNat = k := by omega
        have hx2 : Dom.parAt t k = -1 ∨ ∃ q : Nat, Dom.parAt t k = q := (HG.out.par k).imp (fun e => e) fun ⟨p, _, e, _⟩ => ⟨p, e⟩
        have HM : Hid (upM rk (.int .i64 (Dom.parAt t k)) < upM rk (.int .i64 (k : Int))) := hid (by
          unfold upM
          simp only
          rw [if_neg (show ¬ (k : Int) = -1 by omega), show ((k : Int)).toNat = k by omega]
          rcases hx2 with e | ⟨q, e⟩
          · rw [e, if_pos rfl]; omega
          · rw [e, if_neg (by omega), show ((q : Int)).toNat = q by omega]
            have := HRK.out k q e
            omega)
        have HJ3 := hid hJ3
        have HV3 := hid hV3
        have HX2 := hid hx2
        clear hJ3 hV3 hx2 hJ hVx hy hR
        generalize Dom.parAt t k = Q at *
        gi_wp2
        go_roundw
        case rel => exact ⟨Q, rfl, HX2.out, HV3, HJ3⟩
        case measure => exact HM.out
      · have HD : Hid ((LoopU w r o id R false W3 ∧ V (-1)) ∨ (LoopU w (leftR r) o id R true W3 ∧ V (-2))) := hid (.inr ⟨hJ3, hV3⟩)
        clear hJ3 hV3 hJ hVx hy hR
        gi_wp2
        go_end0
        exact ⟨⟨_, rfl⟩, HD.out⟩
theorem up_leaf {t : Dom.T} (hG : Dom.Good t) {p o : Nat} (h : Dom.kidsAt t o = []) : Dom.Up t p o ↔ p = o := by
  constructor
  · intro g
    induction g with
    | refl x => rfl
    | step e g ih =>
      have := ih h
      subst this
      have := (hG.par_there e).2.1
      rw [h] at this
      cases this
  · rintro rfl
    exact .refl _
theorem up_next {t : Dom.T} {x o : Nat} (hne : x ≠ o) : Dom.Up t x o ↔ ∃ q : Nat, Dom.parAt t x = q ∧ Dom.Up t q o := by
  constructor
  · intro g
    cases g with
    | refl => exact absurd rfl hne
    | step e g => exact ⟨_, e, g⟩
  · rintro ⟨q, e, g⟩
    exact .step e g
open Classical in
set_option maxHeartbeats 8000000 in
theorem pwithin_leaf (w : World) (base R g cap : Nat) (S : Nat → Prop) (rs : List PR) (t : Dom.T) (p o : Nat) (h : ReadK w base R S g cap rs t) (hG : Dom.Good t) (hp : p < t.length) (ho : o < t.length) (hk : Dom.kidsAt t o = []) :
    Calls Try.prog 85 #[.pointer (some ⟨R, 0, none⟩), .int .i64 p, .int .i64 o] w fun e w' => e = .returned (.bool (decide (Dom.Up t p o))) ∧ Below w.heap.size w w' := by
  have h1 := h.top
  obtain ⟨r, _, X, _⟩ := h.at_ ho
  have x6 := X.c6
  rw [hk] at x6
  change w.cell? ⟨g, o * 10 + 6, none⟩ = some (.int .i64 (-1)) at x6
  have eR : decide (Dom.Up t p o) = decide (p = o) := by
    by_cases e : p = o
    · rw [decide_eq_true e, decide_eq_true ((up_leaf hG hk).2 e)]
    · rw [decide_eq_false e, decide_eq_false fun q => e ((up_leaf hG hk).1 q)]
  rw [eR]
  have eB : ((p : Int) == (o : Int)) = decide (p = o) := by
    by_cases e : p = o
    · subst e; simp
    · rw [decide_eq_false e]
      simp
      omega
  obtain ⟨n, hn⟩ : ∃ n, List.length t = n := ⟨_, rfl⟩
  rw [hn] at h1 hp ho
  have ho3 : (o : Int) < (n : Int) := by omega
  have zo : ((o : Int)).toNat = o := by omega
  obtain ⟨B, hB⟩ : ∃ B, decide (p = o) = B := ⟨_, rfl⟩
  rw [hB] at eB ⊢
  obtain ⟨W1, hW1⟩ : ∃ W1, (w.alloc (.cells #[.int .i64 (o : Int)] 3)).alloc (.cells #[.bool false] 4) = W1 := ⟨_, rfl⟩
  have b1 : Below w.heap.size w W1 := by rw [← hW1]; exact ((Below.refl _ w).alloc (Nat.le_refl _) _).alloc (by simp) _
  have B0 : BlkW W1 w.heap.size #[.int .i64 (o : Int)] 3 := by rw [← hW1]; exact (BlkW.new w _ _).alloc _
  have B1 : BlkW W1 (w.heap.size + 1) #[.bool false] 4 := by
    rw [← hW1]
    have := BlkW.new (w.alloc (.cells #[.int .i64 (o : Int)] 3)) #[.bool false] 4
    rwa [World.size_alloc] at this
  have q0 := B0.cell 0
  have q1 := B1.free 0
  have c1 := B1.cell 0
  simp only [List.getElem?_toArray, List.getElem?_cons_zero] at q0 c1
  have h1' := cell_up h1 b1
  have x6' := cell_up x6 b1
  have q2 := (B1.set_ 0 (.bool B)).cell 0
  simp only [List.getElem?_toArray, List.setIfInBounds_toArray, List.set_cons_zero, List.getElem?_cons_zero] at q2
  have HB := hid (b1.drew.setCell (p := ⟨w.heap.size + 1, 0, none⟩) (by show w.heap.size ≤ w.heap.size + 1; omega) (.bool B))
  have HB2 := hid (b1.setCell (p := ⟨w.heap.size + 1, 0, none⟩) (by show w.heap.size ≤ w.heap.size + 1; omega) (.bool B))
  clear X h hn hG hk eR hB
  refine (callsIn_wide (n := 3)).1 ?_
  refine callsIn_of_wp_marks Try.func85 rfl trivial ?_ rfl
  simp only [Try.ntmps85, List.size_toArray, List.length_cons, List.length_nil, Nat.reduceAdd, Nat.reduceSub, Array.replicate_succ, Array.replicate_zero, List.push_toArray, List.append_toArray, List.nil_append, List.cons_append]
  gi_wp2
  gi_region
  gi_wp2
  refine ⟨.bool B, by simp [results, Try.results85, go_sem, q2], ?_⟩
  exact ⟨rfl, HB2.out.drew⟩
attribute [local go_sem] Oper.semAt_some
open Classical in
set_option maxHeartbeats 8000000 in
theorem pwithin_loop (w : World) (base R g cap : Nat) (S : Nat → Prop) (rs : List PR) (t : Dom.T) (p o : Nat) (h : ReadK w base R S g cap rs t) (hG : Dom.Good t) (hp : p < t.length) (ho : o < t.length) (hk : Dom.kidsAt t o ≠ []) :
    Calls Try.prog 85 #[.pointer (some ⟨R, 0, none⟩), .int .i64 p, .int .i64 o] w fun e w' => e = .returned (.bool (decide (Dom.Up t p o))) ∧ Below w.heap.size w w' := by
  have h1 := h.top
  obtain ⟨r, _, X, _⟩ := h.at_ ho
  have x6 := X.c6
  have dF : (Dom.headI (Dom.kidsAt t o) == -1) = false := by
    rcases Dom.headI_is (Dom.kidsAt t o) with e | ⟨x, e, _⟩
    · exact absurd (Dom.headI_neg.1 e) hk
    · rw [e]; simp
  generalize Dom.headI (Dom.kidsAt t o) = FST at *
  have h5 : ∀ i, i < t.length → w.cell? ⟨g, i * 10 + 5, none⟩ = some (.int .i64 (Dom.parAt t i)) := fun i hi => by
    obtain ⟨r, _, X, _⟩ := h.at_ hi
    exact X.c5
  obtain ⟨rk, hrk⟩ := hG.ends
  have hpar := hG.par
  -- what is known of the number at hand
  obtain ⟨V, hV⟩ : ∃ V : Int → Prop, V = fun (x : Int) => (∃ k : Nat, x = k ∧ k < t.length ∧ (Dom.Up t p o ↔ Dom.Up t k o)) ∨ (x = -1 ∧ ¬ Dom.Up t p o) ∨ (x = -2 ∧ Dom.Up t p o) := ⟨_, rfl⟩
  have V0 : V p := by rw [hV]; exact .inl ⟨p, rfl, hp, Iff.rfl⟩
  have Vl : ∀ x : Nat, V x → x < t.length := by
    rw [hV]
    rintro x (⟨k, e, hk, _⟩ | ⟨e, _⟩ | ⟨e, _⟩) <;> omega
  have Vn : ∀ x : Nat, x ≠ o → V x → V (Dom.parAt t x) := by
    rw [hV]
    rintro x hne (⟨k, e, hk, hu⟩ | ⟨e, _⟩ | ⟨e, _⟩)
    · obtain rfl : x = k := by omega
      rw [up_next hne] at hu
      rcases hpar x with e | ⟨q, q1, q2, _⟩
      · refine .inr (.inl ⟨e, fun g => ?_⟩)
        obtain ⟨q, q1, _⟩ := hu.1 g
        omega
      · refine .inl ⟨q, q2, q1, hu.trans ⟨?_, fun g => ⟨q, q2, g⟩⟩⟩
        rintro ⟨q', e', g⟩
        obtain rfl : q' = q := by omega
        exact g
    · omega
    · omega
  have Vy : V o → V (-2) := by
    rw [hV]
    rintro (⟨k, e, hk, hu⟩ | ⟨e, _⟩ | ⟨e, _⟩)
    · obtain rfl : o = k := by omega
      exact .inr (.inr ⟨rfl, hu.2 (.refl _)⟩)
    · omega
    · omega
  have Ve : V (-1) → decide (Dom.Up t p o) = false := by
    rw [hV]
    rintro (⟨k, e, _⟩ | ⟨_, e⟩ | ⟨e, _⟩)
    · omega
    · exact decide_eq_false e
    · omega
  have Vx : V (-2) → decide (Dom.Up t p o) = true := by
    rw [hV]
    rintro (⟨k, e, _⟩ | ⟨e, _⟩ | ⟨_, e⟩)
    · omega
    · omega
    · exact decide_eq_true e
  generalize decide (Dom.Up t p o) = ANS at *
  clear hV
  have HG := hid hG
  obtain ⟨n, hn⟩ : ∃ n, List.length t = n := ⟨_, rfl⟩
  rw [hn] at h1 hp ho h5 Vl
  have ho3 : (o : Int) < (n : Int) := by omega
  have zo : ((o : Int)).toNat = o := by omega
  obtain ⟨W1, hW1⟩ : ∃ W1, (w.alloc (.cells #[.int .i64 (o : Int)] 3)).alloc (.cells #[.bool false] 4) = W1 := ⟨_, rfl⟩
  have b1 : Below w.heap.size w W1 := by rw [← hW1]; exact ((Below.refl _ w).alloc (Nat.le_refl _) _).alloc (by simp) _
  have s1 : W1.heap.size = w.heap.size + 2 := by rw [← hW1]; simp
  have B0 : BlkW W1 w.heap.size #[.int .i64 (o : Int)] 3 := by rw [← hW1]; exact (BlkW.new w _ _).alloc _
  have B1 : BlkW W1 (w.heap.size + 1) #[.bool false] 4 := by
    rw [← hW1]
    have := BlkW.new (w.alloc (.cells #[.int .i64 (o : Int)] 3)) #[.bool false] 4
    rwa [World.size_alloc] at this
  have q0 := B0.cell 0
  simp only [List.getElem?_toArray, List.getElem?_cons_zero] at q0
  have h1' := cell_up h1 b1
  have x6' := cell_up x6 b1
  have HB0 := hid B0
  have HB1 := hid B1
  have Hb1 := hid b1
  have Hs1 := hid s1
  have H5 := hid h5
  have HVV := hid (And.intro V0 (And.intro Vl (And.intro Vn (And.intro Vy (And.intro Ve Vx)))))
  have HRK := hid hrk
  clear X h hG B0 B1 b1 s1 h5 V0 Vl Vn Vy Ve Vx hrk hpar hk
  refine (callsIn_wide (n := 3)).1 ?_
  refine callsIn_of_wp_marks Try.func85 rfl trivial ?_ rfl
  simp only [Try.ntmps85, List.size_toArray, List.length_cons, List.length_nil, Nat.reduceAdd, Nat.reduceSub, Array.replicate_succ, Array.replicate_zero, List.push_toArray, List.append_toArray, List.nil_append, List.cons_append]
  gi_wp2
  gi_region
  gi_wp2
  refine ⟨trivial, ?_⟩
  refine (callsIn_wide.2 (poutwards_any R p _)).mono ?_
  rintro e w' ⟨rfl, rfl⟩
  obtain ⟨W2, hW2⟩ : ∃ W2, W1.drew = W2 := ⟨_, rfl⟩
  have s2 : W2.heap.size = w.heap.size + 2 := by rw [← hW2]; exact Hs1.out
  have A0 : BlkW W2 w.heap.size #[.int .i64 (o : Int)] 3 := by rw [← hW2]; exact HB0.out
  have A1 : BlkW W2 (w.heap.size + 1) #[.bool false] 4 := by rw [← hW2]; exact HB1.out
  have a1 : Below w.heap.size w W2 := by rw [← hW2]; exact Hb1.out.drew
  rw [hW2, s2]
  clear hW2 HB0 HB1 Hb1 Hs1
  gi_wp2
  obtain ⟨W0, hW0⟩ : ∃ W0, (W2.alloc (.cells #[.pointer (some ⟨R, 0, none⟩)] 46)).alloc (.cells #[.int .i64 (p : Int)] 3) = W0 := ⟨_, rfl⟩
  have hs0 : W0.heap.size = w.heap.size + 4 := by rw [← hW0]; simp [s2]
  have C0 : BlkW W0 w.heap.size #[.int .i64 (o : Int)] 3 := by rw [← hW0]; exact (A0.alloc _).alloc _
  have C1 : BlkW W0 (w.heap.size + 1) #[.bool false] 4 := by rw [← hW0]; exact (A1.alloc _).alloc _
  have C2 : BlkW W0 (w.heap.size + 2) #[.pointer (some ⟨R, 0, none⟩)] 46 := by
    rw [← hW0]
    have := BlkW.new W2 #[.pointer (some ⟨R, 0, none⟩)] 46
    rw [s2] at this
    exact this.alloc _
  have C3 : BlkW W0 (w.heap.size + 3) #[.int .i64 (p : Int)] 3 := by
    rw [← hW0]
    have := BlkW.new (W2.alloc (.cells #[.pointer (some ⟨R, 0, none⟩)] 46)) #[.int .i64 (p : Int)] 3
    rwa [World.size_alloc, s2] at this
  have cb : Below w.heap.size w W0 := by rw [← hW0]; exact (a1.alloc a1.size _).alloc (a1.alloc a1.size _).size _
  rw [hW0]
  clear hW0 A0 A1 a1 s2
  refine range_at2 (F := Fence.wide) rfl (fun h => by simp [Fence.wide] at h) (gf := 98) (lb := #[.pointer (some ⟨w.heap.size + 3, 0, none⟩), .pointer (some ⟨w.heap.size + 2, 0, none⟩)]) rfl trivial (enters_of Try.func98 (by kernel_rfl) rfl) fun fn _ => ?_
  rw [hs0]
  generalize hr : recOf _ _ _ _ _ _ LoopState.ready = r
  have hY : ∀ (x : Nat) (W : World), LoopU w r o p R false W → V x → YieldAt Fence.wide (2 - 1) Try.prog (w.heap.size + 5) #[.int .i64 x] W fun e W' => (e = .returned (.bool true) ∧ LoopU w r o p R false W' ∧ V (Dom.parAt t x)) ∨ (e = .returned (.bool false) ∧ LoopU w (leftR r) o p R true W' ∧ V (-2)) := by
    intro x W hJ hVx
    have hst : r.state = .ready := by rw [← hr]; rfl
    have hpe : r.pending = none := by rw [← hr]; rfl
    have hfn : Fence.wide.fn r.fn := trivial
    have ha := congrArg Loop.assign hr
    have hb := congrArg Loop.body hr
    have hpp := congrArg Loop.params hr
    have htm := congrArg Loop.tmps hr
    dsimp only [recOf] at ha hb hpp htm
    refine round_at2 hJ.rcd hst hpe (by rw [← hpp]; rfl) hfn ?_
    rw [← ha, ← hb, ← hpp, ← htm]
    clear ha hb hpp htm hr
    gi_wp2
    refine ⟨hJ.rcd, ?_⟩
    have J2 := hJ.busy (busyR r)
    have HR2 := hid fun b => J2.answer b
    obtain ⟨W3, hW3⟩ : ∃ W3, W.putObj (w.heap.size + 5) (.loop (busyR r)) = W3 := ⟨_, rfl⟩
    rw [hW3] at J2 HR2 ⊢
    have u0 := J2.bo.cell 0
    have u1 := J2.br.cell 0
    have u2 := J2.br.free 0
    simp only [List.getElem?_toArray, List.getElem?_cons_zero] at u0 u1
    have HJ2 := hid J2
    have HVx := hid hVx
    clear hJ J2 hVx hW3
    by_cases hxo : x = o
    · subst hxo
      gi_wp2
      exact ⟨(HR2.out true).rcd, .inr ⟨rfl, (HR2.out true).busy (leftR r), HVV.out.2.2.2.1 HVx.out⟩⟩
    · have dx : ((x : Int) == (o : Int)) = false := by simp; omega
      gi_wp2
      exact ⟨HJ2.out.rcd, .inl ⟨rfl, HJ2.out.busy r, HVV.out.2.2.1 x hxo HVx.out⟩⟩
  refine (pups_any R g n cap rk t w r o p hp hn.symm HG.out HRK.out h1 H5.out V HVV.out.1 HVV.out.2.1 hY _ ?_).mono ?_
  · have d1 := heap_alloc_new W0 (.deferred (some []))
    have d2 := heap_alloc_new (W0.alloc (.deferred (some []))) (.loop r)
    rw [World.size_alloc, hs0] at d2
    rw [hs0] at d1
    exact ⟨d2, (Below.heap_alloc _ _ _ (by rw [World.size_alloc]; omega)).trans d1, (C0.alloc _).alloc _, (C1.alloc _).alloc _, (C2.alloc _).alloc _, (C3.alloc _).alloc _, (cb.alloc cb.size _).alloc (cb.alloc cb.size _).size _⟩
  · rintro e W ⟨hv, ⟨hJ, hVx⟩ | ⟨hJ, hVx⟩⟩
    · refine ⟨hv, .inl ⟨hJ.rcd, ?_⟩⟩
      generalize recOf _ _ _ _ _ _ LoopState.exhausted = rx
      have HA := hid (HVV.out.2.2.2.2.1 hVx)
      have J9 := hJ.busy rx
      change LoopU w rx o p R false (W.putObj (w.heap.size + 4 + 1) (.loop rx)) at J9
      obtain ⟨W9, hW9⟩ : ∃ W9, W.putObj (w.heap.size + 4 + 1) (.loop rx) = W9 := ⟨_, rfl⟩
      rw [hW9] at J9 ⊢
      have u1 := J9.br.cell 0
      have u2 := J9.br.free 0
      have J10 := J9.answer false
      have HD := hid J10.dfr
      have HR := hid J10.below
      have u3 := J10.br.cell 0
      simp only [List.getElem?_toArray, List.getElem?_cons_zero] at u1 u3
      have u4 := (World.cell?_of_block (a := ⟨w.heap.size + 1, 0, none⟩) (World.putObj_heap_other (w := W9.setCell ⟨w.heap.size + 1, 0, none⟩ (.bool false)) (o := .deferred none) (r := w.heap.size + 4) (k := w.heap.size + 1) (by omega))).trans u3
      clear hJ hY hr hVx hW9 J9 J10
      gi_wp2
      refine ⟨by simp, .inl ⟨_, _, rfl, run_takeDeferred HD.out, ?_⟩⟩
      refine ⟨.bool false, by simp [results, Try.results85, go_sem, u4], ?_⟩
      exact ⟨by rw [HA.out], HR.out.grown (grownBy_putObj' _ _ _) HR.out.size (fun k e => by cases e; omega)⟩
    · refine ⟨hv, .inr ⟨hJ.rcd, ?_⟩⟩
      have HA := hid (HVV.out.2.2.2.2.2 hVx)
      generalize ({ leftR r with state := LoopState.exhausted } : Loop) = rx
      have J9 := hJ.busy rx
      change LoopU w rx o p R true (W.putObj (w.heap.size + 4 + 1) (.loop rx)) at J9
      obtain ⟨W9, hW9⟩ : ∃ W9, W.putObj (w.heap.size + 4 + 1) (.loop rx) = W9 := ⟨_, rfl⟩
      rw [hW9] at J9 ⊢
      have u1 := J9.br.cell 0
      have HD := hid J9.dfr
      have HR := hid J9.below
      simp only [List.getElem?_toArray, List.getElem?_cons_zero] at u1
      have u4 := (World.cell?_of_block (a := ⟨w.heap.size + 1, 0, none⟩) (World.putObj_heap_other (w := W9) (o := .deferred none) (r := w.heap.size + 4) (k := w.heap.size + 1) (by omega))).trans u1
      clear hJ hY hr hVx hW9 J9
      gi_wp2
      refine ⟨by simp, .inl ⟨_, _, rfl, run_takeDeferred HD.out, ?_⟩⟩
      refine ⟨.bool true, by simp [results, Try.results85, go_sem, u4], ?_⟩
      exact ⟨by rw [HA.out], HR.out.grown (grownBy_putObj' _ _ _) HR.out.size (fun k e => by cases e; omega)⟩
open Classical in
/-- Whether a node is another one, or stands within it. -/
theorem pwithin_any (w : World) (base R g cap : Nat) (S : Nat → Prop) (rs : List PR) (t : Dom.T) (p o : Nat) (h : ReadK w base R S g cap rs t) (hG : Dom.Good t) (hp : p < t.length) (ho : o < t.length) :
    Calls Try.prog 85 #[.pointer (some ⟨R, 0, none⟩), .int .i64 p, .int .i64 o] w fun e w' => e = .returned (.bool (decide (Dom.Up t p o))) ∧ Below w.heap.size w w' := by
  by_cases hk : Dom.kidsAt t o = []
  · exact pwithin_leaf w base R g cap S rs t p o h hG hp ho hk
  · exact pwithin_loop w base R g cap S rs t p o h hG hp ho hk
end Go.Proofs.Ytlgmjnnfndedbaa
