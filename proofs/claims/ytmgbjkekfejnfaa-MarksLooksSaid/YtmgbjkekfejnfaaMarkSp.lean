/- Walks over the program's package marks: which mark is left out. -/
import Derived.Test.YtmgbjkekfejnfaaMarkLj
import Derived.Test.YtmgbjkekfejnfaaMarkIt
import Derived.Test.YtmgbjkekfejnfaaLoopM
namespace Go.Proofs.Ytmgbjkekfejnfaa
open Go.RowKit Go.Lib
set_option maxRecDepth 100000
set_option linter.unusedVariables false
/-- How many are alike, and which is the first, from the last mark backwards. -/
def Mk.dnK (l : List Mk.M) (m : Mk.M) : Nat → Nat → Int → Nat × Int
  | 0, c, f => (c, f)
  | k + 1, c, f => match l[k]? with
    | none => (c, f)
    | some x => if x.id < 0 then (c, f) else if Mk.alike m x then Mk.dnK l m k (c + 1) k else Mk.dnK l m k c f
theorem Mk.dnK_step {l : List Mk.M} {m : Mk.M} {k c : Nat} {f : Int} {x : Mk.M} (hx : l[k]? = some x) : Mk.dnK l m (k + 1) c f = if x.id < 0 then (c, f) else if Mk.alike m x then Mk.dnK l m k (c + 1) k else Mk.dnK l m k c f := by
  conv => lhs; unfold Mk.dnK
  rw [hx]
theorem Mk.dnK_is (l : List Mk.M) (m : Mk.M) : ∀ k c f, k ≤ l.length → Mk.dnK l m k c f = ((Mk.cntK l m (Mk.behind l k) k).1 + c, if (Mk.cntK l m (Mk.behind l k) k).2 < 0 then f else (Mk.cntK l m (Mk.behind l k) k).2)
  | 0, c, f, _ => by simp [Mk.dnK, Mk.cntK]
  | k + 1, c, f, h => by
    have hx : l[k]? = some l[k] := List.getElem?_eq_getElem (by omega)
    generalize l[k] = x at hx
    rw [Mk.dnK_step hx, Mk.behind_step hx]
    by_cases hn : x.id < 0
    · rw [if_pos hn, if_pos hn, Mk.cntK_start]
      simp
    · rw [if_neg hn, if_neg hn, Mk.cntK_step (Mk.behind_le l k) hx, Mk.dnK_is l m k _ _ (by omega), Mk.dnK_is l m k _ _ (by omega)]
      by_cases ha : Mk.alike m x = true
      · rw [if_pos ha, if_pos ha]
        by_cases h2 : (Mk.cntK l m (Mk.behind l k) k).2 < 0
        · rw [if_pos h2]
          refine Prod.ext (show _ + (c + 1) = _ + 1 + c by omega) ?_
          show (k : Int) = if (k : Int) < 0 then f else (k : Int)
          rw [if_neg (by omega)]
        · rw [if_neg h2]
          refine Prod.ext (show _ + (c + 1) = _ + 1 + c by omega) ?_
          show (Mk.cntK l m (Mk.behind l k) k).2 = if (Mk.cntK l m (Mk.behind l k) k).2 < 0 then f else (Mk.cntK l m (Mk.behind l k) k).2
          rw [if_neg h2]
      · rw [if_neg ha, if_neg ha]
theorem Mk.skip_dn {l : List Mk.M} {m : Mk.M} {n : Nat} (hn : l.length = n) (hm : ¬ m.id < 0) : Mk.skipI l m = if (Mk.dnK l m n 0 (-1)).1 < 3 then -1 else (Mk.dnK l m n 0 (-1)).2 := by
  subst hn
  unfold Mk.skipI
  rw [if_neg hm, Mk.dnK_is l m _ _ _ (Nat.le_refl _)]
  show (if _ then _ else _) = if _ + 0 < 3 then _ else if _ then _ else _
  rw [Nat.add_zero]
  by_cases h3 : (Mk.cntK l m (Mk.behind l l.length) l.length).1 < 3
  · rw [if_pos h3, if_pos h3]
  · rw [if_neg h3, if_neg h3]
    rcases Mk.cnt_spec l m (Mk.behind l l.length) l.length with ⟨h4, h5⟩ | ⟨j, y, h4, _⟩
    · omega
    · rw [if_neg (by omega)]
theorem Mk.dnK_le (l : List Mk.M) (m : Mk.M) : ∀ k c f, (Mk.dnK l m k c f).1 ≤ k + c
  | 0, c, f => by simp [Mk.dnK]
  | k + 1, c, f => by
    unfold Mk.dnK
    split
    · show c ≤ _; omega
    · split
      · show c ≤ _; omega
      · split
        · have := Mk.dnK_le l m k (c + 1) k; omega
        · have := Mk.dnK_le l m k c f; omega
/-- The blocks while it looks: the mark, which is the first, how many, the list. -/
def spB (s F : Nat) (mc : Array Value) (lv : Value) (f : Int) (c : Nat) : Blocks := [(s, mc, 25), (F, #[.int .i64 f], 3), (F + 1, #[.int .i64 c], 3), (F + 2, #[lv], 22)]
theorem spB_all {s F : Nat} {mc : Array Value} {lv : Value} {f : Int} {c : Nat} {p : Nat × Array Value × TypeId → Prop} (h0 : p (s, mc, 25)) (h1 : p (F, #[.int .i64 f], 3)) (h2 : p (F + 1, #[.int .i64 c], 3)) (h3 : p (F + 2, #[lv], 22)) : ∀ x ∈ spB s F mc lv f c, p x := fun x hx => by
  simp only [spB, List.mem_cons, List.not_mem_nil, or_false] at hx
  rcases hx with rfl | rfl | rfl | rfl
  · exact h0
  · exact h1
  · exact h2
  · exact h3
theorem spB_set {w W : World} {s F : Nat} {mc : Array Value} {r : Loop} {lv : Value} {f f' : Int} {c : Nat} (h : LoopM w (F + 3) r (spB s F mc lv f c) W) (hs : s < F) (hF : w.heap.size ≤ F) : LoopM w (F + 3) r (spB s F mc lv f' c) (W.setCell ⟨F, 0, none⟩ (.int .i64 f')) :=
  h.set_ F 0 _ _ (by omega) (spB_all (.inl ⟨by show s ≠ F; omega, by simp [spB]⟩) (.inr ⟨rfl, #[.int .i64 f], by simp [spB], rfl⟩) (.inl ⟨by show F + 1 ≠ F; omega, by simp [spB]⟩) (.inl ⟨by show F + 2 ≠ F; omega, by simp [spB]⟩))
theorem spB_set1 {w W : World} {s F : Nat} {mc : Array Value} {r : Loop} {lv : Value} {f : Int} {c c' : Nat} (h : LoopM w (F + 3) r (spB s F mc lv f c) W) (hs : s < F) (hF : w.heap.size ≤ F) : LoopM w (F + 3) r (spB s F mc lv f c') (W.setCell ⟨F + 1, 0, none⟩ (.int .i64 c')) :=
  h.set_ (F + 1) 0 _ _ (by omega) (spB_all (.inl ⟨by show s ≠ F + 1; omega, by simp [spB]⟩) (.inl ⟨by show F ≠ F + 1; omega, by simp [spB]⟩) (.inr ⟨rfl, #[.int .i64 c], by simp [spB], rfl⟩) (.inl ⟨by show F + 2 ≠ F + 1; omega, by simp [spB]⟩))
attribute [local go_sem] Oper.semAt_some
set_option maxHeartbeats 16000000 in
theorem pspare_any (a : Option Addr) (n c : Nat) (rs : List MR) (xs : List Mk.M) (m : MR) (z : Mk.M) (w : World) (h : MarksIn a n c rs xs w) (g : FitM w m z) :
    Calls Try.prog 22 #[.slice a n c, .agg #[.int .i64 m.id, .string (bs m.name), .slice m.aa m.an m.ac]] w fun e w' => e = .returned (.int .i64 (Mk.skipI xs z)) ∧ Below w.heap.size w w' := by
  have hf := h.few
  have hln := h.len
  have HH := hid h
  have HG := hid g
  have HGI := hid g.id
  obtain ⟨mc, hmc⟩ : ∃ mc : Array Value, mc = #[.int .i64 m.id, .string (bs m.name), .slice m.aa m.an m.ac] := ⟨_, rfl⟩
  have HMC := hid hmc
  obtain ⟨W0, hW0⟩ : ∃ W0, w.alloc (.cells #[.int .i64 m.id, .string (bs m.name), .slice m.aa m.an m.ac] 25) = W0 := ⟨_, rfl⟩
  have b0 : Below w.heap.size w W0 := by rw [← hW0]; exact (Below.refl _ w).alloc (Nat.le_refl _) _
  have B0 : BlkW W0 w.heap.size mc 25 := by rw [← hW0, hmc]; exact BlkW.new w _ _
  have e0 := B0.cell 0
  have e1 := B0.cell 1
  have e2 := B0.cell 2
  rw [hmc] at e0 e1 e2
  simp only [List.getElem?_toArray, List.getElem?_cons_zero, List.getElem?_cons_succ] at e0 e1 e2
  have HB := hid (And.intro B0 b0)
  have HW := hid hW0
  have HMK := hid (marker_any m.id (bs m.name) m.aa m.an m.ac W0)
  clear b0 B0 hW0 h g hmc
  refine (callsIn_wide (n := 3)).1 ?_
  refine callsIn_of_wp_marks Try.func22 rfl trivial ?_ rfl
  simp only [Try.ntmps22, List.size_toArray, List.length_cons, List.length_nil, Nat.reduceAdd, Nat.reduceSub, Array.replicate_succ, Array.replicate_zero, List.push_toArray, List.append_toArray, List.nil_append, List.cons_append]
  refine wpIn_wide.2 ?_
  go_wp2_with fail
  rw [HW.out]
  refine HMK.out.mono ?_
  rintro e V ⟨rfl, bV⟩
  have HV := hid (And.intro (HB.out.1.below bV HB.out.1.lt) (And.intro (HB.out.2.trans (bV.mono HB.out.2.size)) (show w.heap.size < V.heap.size from Nat.lt_of_lt_of_le HB.out.1.lt bV.size)))
  clear HMK e0 e1 e2 HB bV
  by_cases hneg : m.id < 0
  · have d1 : decide (m.id < 0) = true := decide_eq_true hneg
    have HS := hid (show Mk.skipI xs z = -1 by unfold Mk.skipI; rw [if_pos (by rw [← HGI.out]; exact hneg)])
    clear hneg
    go_wp2_with fail
    refine ⟨_, results_tmp rfl _ _ _, ?_⟩
    exact ⟨by rw [HS.out]; rfl, HV.out.2.1⟩
  · have d1 : decide (m.id < 0) = false := decide_eq_false hneg
    have HS := hid (Mk.skip_dn hln (show ¬ z.id < 0 by rw [← HGI.out]; exact hneg))
    obtain ⟨R, hR⟩ : ∃ R, Mk.dnK xs z n 0 (-1) = R := ⟨_, rfl⟩
    rw [hR] at HS
    have HR := hid hR
    clear hneg hR
    obtain ⟨F, hF⟩ : ∃ F, V.heap.size = F := ⟨_, rfl⟩
    go_wp2_with fail
    refine (mbackward_any a n c _).mono ?_
    rintro e w' ⟨rfl, rfl⟩
    obtain ⟨D0, dV, hsF⟩ := HV.out
    obtain ⟨lv, hlv⟩ : ∃ lv : Value, lv = .slice a n c := ⟨_, rfl⟩
    have HLV := hid hlv
    rw [← hlv]
    have D1 := BlkW.new V #[.int .i64 (-1)] 3
    have D2 := BlkW.new (V.alloc (.cells #[.int .i64 (-1)] 3)) #[.int .i64 0] 3
    have D3 := BlkW.new ((V.alloc (.cells #[.int .i64 (-1)] 3)).alloc (.cells #[.int .i64 0] 3)) #[lv] 22
    rw [World.size_alloc] at D2
    rw [World.size_alloc, World.size_alloc] at D3
    have cb := ((dV.alloc dV.size (.cells #[.int .i64 (-1)] 3)).alloc (dV.alloc dV.size _).size (.cells #[.int .i64 0] 3)).alloc ((dV.alloc dV.size _).alloc (dV.alloc dV.size _).size _).size (.cells #[lv] 22)
    have cs0 : (((V.alloc (.cells #[.int .i64 (-1)] 3)).alloc (.cells #[.int .i64 0] 3)).alloc (.cells #[lv] 22)).heap.size = F + 3 := by rw [World.size_alloc, World.size_alloc, World.size_alloc, hF]
    have es : ((V.alloc (.cells #[.int .i64 (-1)] 3)).alloc (.cells #[.int .i64 0] 3)).heap.size = F + 2 := by rw [World.size_alloc, World.size_alloc, hF]
    have E0 := ((D0.alloc (.cells #[.int .i64 (-1)] 3)).alloc (.cells #[.int .i64 0] 3)).alloc (.cells #[lv] 22)
    have E1 := (D1.alloc (.cells #[.int .i64 0] 3)).alloc (.cells #[lv] 22)
    have E2 := D2.alloc (.cells #[lv] 22)
    rw [es]
    rw [hF] at D3 E1 E2 hsF
    obtain ⟨W0, hW0⟩ : ∃ W0, ((V.alloc (.cells #[.int .i64 (-1)] 3)).alloc (.cells #[.int .i64 0] 3)).alloc (.cells #[lv] 22) = W0 := ⟨_, rfl⟩
    rw [hW0] at D3 E0 E1 E2 cb cs0 ⊢
    have HC := hid (And.intro E0 (And.intro E1 (And.intro E2 (And.intro D3 (And.intro cb cs0)))))
    have HSF := hid (And.intro hsF (show w.heap.size ≤ F by omega))
    clear D0 D1 D2 D3 E0 E1 E2 dV hW0 cb cs0 es hF HV hlv
    go_wp2_with fail
    refine (wpIn_wide (n := 3)).1 ?_
    refine range_at3 (F := Fence.wide) rfl (fun h => by simp [Fence.wide] at h) (gf := 35) (lb := #[.pointer (some ⟨F + 2, 0, none⟩)]) rfl trivial (enters_of Try.func35 (by kernel_rfl) rfl) fun fn _ => ?_
    obtain ⟨C0, C1, C2, C3, cb, cs0⟩ := HC.out
    have HST := hid fun r => LoopM.start (w := w) (W := W0) (bl := spB w.heap.size F mc lv (-1) 0) r (spB_all C0 C1 C2 C3) (spB_all (Nat.le_refl _) (by show w.heap.size ≤ F; omega) (by show w.heap.size ≤ F + 1; omega) (by show w.heap.size ≤ F + 2; omega)) cb
    rw [cs0] at HST ⊢
    clear C0 C1 C2 C3 cb cs0 HC
    generalize hr : recOf _ _ _ _ _ _ LoopState.ready = r
    have hY : ∀ (k : Nat) (y : MR) (W : World), rs[k]? = some y → (∃ f c, LoopM w (F + 3) r (spB w.heap.size F mc lv f c) W ∧ Mk.dnK xs z (k + 1) c f = R ∧ c + (k + 1) ≤ n) →
        YieldAt Fence.wide (2 - 1) Try.prog (F + 3 + 1) #[.int .i64 k, .agg #[.int .i64 y.id, .string (bs y.name), .slice y.aa y.an y.ac]] W fun e W' => (e = .returned (.bool true) ∧ ∃ f c, LoopM w (F + 3) r (spB w.heap.size F mc lv f c) W' ∧ Mk.dnK xs z k c f = R ∧ c + k ≤ n) ∨
          (e = .returned (.bool false) ∧ ∃ f c, LoopM w (F + 3) (leftJ r (.exit 0)) (spB w.heap.size F mc lv f c) W' ∧ (c, f) = R) := by
      rintro k y W hy ⟨ff, cc, hJ, hV, hcc⟩
      have hst : r.state = .ready := by rw [← hr]; rfl
      have hpe : r.pending = none := by rw [← hr]; rfl
      have hfn : Fence.wide.fn r.fn := trivial
      have ha := congrArg Loop.assign hr
      have hb := congrArg Loop.body hr
      have hpp := congrArg Loop.params hr
      have htm := congrArg Loop.tmps hr
      dsimp only [recOf] at ha hb hpp htm
      refine round_at3 hJ.rcd hst hpe (by rw [← hpp]; rfl) hfn ?_
      rw [← ha, ← hb, ← hpp, ← htm]
      clear ha hb hpp htm hr hst hpe hfn
      have hkn : k < n := by have := HH.out.row.1; have := (List.getElem?_eq_some_iff.1 hy).1; omega
      obtain ⟨x, hx⟩ : ∃ x, xs[k]? = some x := ⟨_, List.getElem?_eq_getElem (by omega)⟩
      rw [Mk.dnK_step hx] at hV
      have f := HH.out.atts.2 k y x hy hx
      rw [← f.id] at hV
      have HAL := hid fun V (hV : Below w.heap.size w V) => palike_any m y z x V (HG.out.below hV) (f.below hV)
      -- the mark in a block of its own
      have A1 := hJ.up ((Below.refl W.heap.size W).alloc (Nat.le_refl _) (.cells #[.int .i64 y.id, .string (bs y.name), .slice y.aa y.an y.ac] 25))
      have cE := BlkW.new W #[.int .i64 y.id, .string (bs y.name), .slice y.aa y.an y.ac] 25
      have sE : W.heap.size ≠ F + 3 + 1 := by
        have := hJ.size
        omega
      have HV := hid hV
      clear hJ hV f hx hy
      gi_wp2
      refine ⟨A1.rcd, ?_⟩
      have J2 := A1.busy (busyR r)
      have cE2 : BlkW ((W.alloc (.cells #[.int .i64 y.id, .string (bs y.name), .slice y.aa y.an y.ac] 25)).putObj (F + 3 + 1) (.loop (busyR r))) W.heap.size #[.int .i64 y.id, .string (bs y.name), .slice y.aa y.an y.ac] 25 := (World.putObj_heap_other sE).trans cE
      obtain ⟨W3, hW3⟩ : ∃ W3, (W.alloc (.cells #[.int .i64 y.id, .string (bs y.name), .slice y.aa y.an y.ac] 25)).putObj (F + 3 + 1) (.loop (busyR r)) = W3 := ⟨_, rfl⟩
      rw [hW3] at J2 cE2 ⊢
      have HMK := hid (marker_any y.id (bs y.name) y.aa y.an y.ac W3)
      have e0 := cE2.cell 0
      have e1 := cE2.cell 1
      have e2 := cE2.cell 2
      simp only [List.getElem?_toArray, List.getElem?_cons_zero, List.getElem?_cons_succ] at e0 e1 e2
      have HJ2 := hid J2
      obtain ⟨B, hB⟩ : ∃ B, W.heap.size = B := ⟨_, rfl⟩
      rw [hB] at e0 e1 e2 cE2 ⊢
      have HCE := hid fun V (hV : Below W3.heap.size W3 V) => cE2.below hV cE2.lt
      clear J2 A1 cE cE2 hW3 sE hB
      gi_wp2
      refine ⟨trivial, ?_⟩
      refine (callsIn_wide.2 HMK.out).mono ?_
      rintro e W4 ⟨rfl, b4⟩
      have HJ4 := hid (HJ2.out.up b4)
      have cE4 := HCE.out W4 b4
      clear HJ2 HMK e0 e1 e2 b4 HCE
      by_cases hneg : y.id < 0
      · have d1 : decide (y.id < 0) = true := decide_eq_true hneg
        have HE := hid (show (cc, ff) = R by rw [← HV.out, if_pos hneg])
        clear hneg HV cE4
        gi_wp2
        exact ⟨HJ4.out.rcd, .inr ⟨rfl, ff, cc, HJ4.out.busy _, HE.out⟩⟩
      · have d1 : decide (y.id < 0) = false := decide_eq_false hneg
        have HV2 := hid (show (if Mk.alike z x then Mk.dnK xs z k (cc + 1) k else Mk.dnK xs z k cc ff) = R by rw [← HV.out, if_neg hneg])
        clear hneg HV
        have e0 := cE4.cell 0
        have e1 := cE4.cell 1
        have e2 := cE4.cell 2
        have m0 := HJ4.out.at_ 0 (show (w.heap.size, mc, (25 : TypeId)) ∈ spB w.heap.size F mc lv ff cc by simp [spB])
        have m1 := HJ4.out.at_ 1 (show (w.heap.size, mc, (25 : TypeId)) ∈ spB w.heap.size F mc lv ff cc by simp [spB])
        have m2 := HJ4.out.at_ 2 (show (w.heap.size, mc, (25 : TypeId)) ∈ spB w.heap.size F mc lv ff cc by simp [spB])
        rw [HMC.out] at m0 m1 m2
        simp only [List.getElem?_toArray, List.getElem?_cons_zero, List.getElem?_cons_succ] at e0 e1 e2 m0 m1 m2
        have HAX := hid (HAL.out W4 HJ4.out.below)
        obtain ⟨A, hA⟩ : ∃ A, Mk.alike z x = A := ⟨_, rfl⟩
        rw [hA] at HV2 HAX
        clear hA cE4 HAL
        gi_wp2
        refine ⟨trivial, ?_⟩
        refine (callsIn_wide.2 HAX.out).mono ?_
        rintro e W5 ⟨rfl, b5⟩
        have HJ5 := hid (HJ4.out.up b5)
        clear HAX b5 e0 e1 e2 m0 m1 m2 HJ4
        cases A with
        | false =>
          have HE := hid (show Mk.dnK xs z k cc ff = R from HV2.out)
          clear HV2
          gi_wp2
          exact ⟨HJ5.out.rcd, .inl ⟨rfl, ff, cc, HJ5.out.busy r, HE.out, by omega⟩⟩
        | true =>
          have HE := hid (show Mk.dnK xs z k (cc + 1) k = R from HV2.out)
          have u0 := HJ5.out.at_ 0 (show (F, #[Value.int .i64 ff], (3 : TypeId)) ∈ spB w.heap.size F mc lv ff cc by simp [spB])
          have u1 := HJ5.out.free 0 (show (F, #[Value.int .i64 ff], (3 : TypeId)) ∈ spB w.heap.size F mc lv ff cc by simp [spB])
          have u2 := HJ5.out.at_ 0 (show (F + 1, #[Value.int .i64 cc], (3 : TypeId)) ∈ spB w.heap.size F mc lv ff cc by simp [spB])
          have u3 := HJ5.out.free 0 (show (F + 1, #[Value.int .i64 cc], (3 : TypeId)) ∈ spB w.heap.size F mc lv ff cc by simp [spB])
          simp only [List.getElem?_toArray, List.getElem?_cons_zero] at u0 u2
          have hw : IntKind.i64.wrap ((cc : Int) + 1) = ((cc + 1 : Nat) : Int) := by rw [IntWalk.i64_in _ (by omega)]; omega
          have SA := spB_set1 (c' := cc + 1) (spB_set (f' := (k : Int)) HJ5.out HSF.out.1 HSF.out.2) HSF.out.1 HSF.out.2
          have HSA := hid (SA.up ((Below.refl _ _).drew))
          clear HV2 SA
          gi_wp2
          gi_region
          all_goals
            gi_wp2
            first | rw [hw] | skip
            exact ⟨HSA.out.rcd, .inl ⟨rfl, (k : Int), cc + 1, HSA.out.busy r, HE.out, by omega⟩⟩
    refine (mbacks_any a n c rs w HH.out.row hf (F + 3 + 1) ⟨F + 2, 0, none⟩ (fun k W => ∃ f c, LoopM w (F + 3) r (spB w.heap.size F mc lv f c) W ∧ Mk.dnK xs z k c f = R ∧ c + k ≤ n)
      (fun W' => ∃ f c, LoopM w (F + 3) (leftJ r (.exit 0)) (spB w.heap.size F mc lv f c) W' ∧ (c, f) = R) (fun k W ⟨f, c', hJ, _⟩ => ⟨hJ.below, by rw [← HLV.out]; exact (hJ.at_ 0 (show (F + 2, #[lv], (22 : TypeId)) ∈ spB w.heap.size F mc lv f c' by simp [spB])).trans rfl⟩) hY _ ⟨-1, 0, HST.out r, HR.out, by omega⟩).mono ?_
    rintro e W ⟨hv, ⟨ff, cc, hJ, hVx, _⟩ | ⟨ff, cc, hJ, hRx⟩⟩
    · have hRx : (cc, ff) = R := hVx
      clear hVx
      refine ⟨hv, .inl ⟨hJ.rcd, ?_⟩⟩
      have J9 := hJ.busy (overR r)
      obtain ⟨W9, hW9⟩ : ∃ W9, W.putObj (F + 3 + 1) (.loop (overR r)) = W9 := ⟨_, rfl⟩
      rw [hW9] at J9 ⊢
      have u0 := J9.at_ 0 (show (F, #[Value.int .i64 ff], (3 : TypeId)) ∈ spB w.heap.size F mc lv ff cc by simp [spB])
      have u2 := J9.at_ 0 (show (F + 1, #[Value.int .i64 cc], (3 : TypeId)) ∈ spB w.heap.size F mc lv ff cc by simp [spB])
      simp only [List.getElem?_toArray, List.getElem?_cons_zero] at u0 u2
      have HJ9 := hid J9
      have HS2 := hid (show Mk.skipI xs z = if cc < 3 then -1 else ff by rw [HS.out, ← hRx])
      clear hY hr hJ hW9 J9 hRx
      by_cases h3 : cc < 3
      · have d3 : decide (cc < 3) = true := decide_eq_true h3
        have h3I : (cc : Int) < 3 := by omega
        have d3I : decide ((cc : Int) < 3) = true := decide_eq_true h3I
        have HE := hid (show Mk.skipI xs z = -1 by rw [HS2.out, if_pos h3])
        clear HS2
        go_wp2_with fail
        refine ⟨by simp, .inl ⟨_, _, rfl, run_takeDeferred HJ9.out.dfr, ?_⟩⟩
        refine ⟨_, results_tmp rfl _ _ _, ?_⟩
        exact ⟨by rw [HE.out]; rfl, HJ9.out.shut.2⟩
      · have d3 : decide (cc < 3) = false := decide_eq_false h3
        have h3I : ¬ (cc : Int) < 3 := by omega
        have d3I : decide ((cc : Int) < 3) = false := decide_eq_false h3I
        have HE := hid (show Mk.skipI xs z = ff by rw [HS2.out, if_neg h3])
        clear HS2
        go_wp2_with fail
        refine ⟨by simp, .inl ⟨_, _, rfl, run_takeDeferred HJ9.out.dfr, ?_⟩⟩
        refine ⟨_, results_tmp rfl _ _ _, ?_⟩
        exact ⟨by rw [HE.out]; rfl, HJ9.out.shut.2⟩
    · refine ⟨hv, .inr ⟨_, hJ.rcd, ?_⟩⟩
      have J9 := hJ.busy (overR (leftJ r (.exit 0)))
      obtain ⟨W9, hW9⟩ : ∃ W9, W.putObj (F + 3 + 1) (.loop (overR (leftJ r (.exit 0)))) = W9 := ⟨_, rfl⟩
      rw [hW9] at J9 ⊢
      refine wpIn_wide.2 ?_
      have u0 := J9.at_ 0 (show (F, #[Value.int .i64 ff], (3 : TypeId)) ∈ spB w.heap.size F mc lv ff cc by simp [spB])
      have u2 := J9.at_ 0 (show (F + 1, #[Value.int .i64 cc], (3 : TypeId)) ∈ spB w.heap.size F mc lv ff cc by simp [spB])
      simp only [List.getElem?_toArray, List.getElem?_cons_zero] at u0 u2
      have HJ9 := hid J9
      have HS2 := hid (show Mk.skipI xs z = if cc < 3 then -1 else ff by rw [HS.out, ← hRx])
      clear hY hr hJ hW9 J9 hRx
      by_cases h3 : cc < 3
      · have d3 : decide (cc < 3) = true := decide_eq_true h3
        have h3I : (cc : Int) < 3 := by omega
        have d3I : decide ((cc : Int) < 3) = true := decide_eq_true h3I
        have HE := hid (show Mk.skipI xs z = -1 by rw [HS2.out, if_pos h3])
        clear HS2
        go_wp2_with fail
        refine ⟨by simp, .inl ⟨_, _, rfl, run_takeDeferred HJ9.out.dfr, ?_⟩⟩
        refine ⟨_, results_tmp rfl _ _ _, ?_⟩
        exact ⟨by rw [HE.out]; rfl, HJ9.out.shut.2⟩
      · have d3 : decide (cc < 3) = false := decide_eq_false h3
        have h3I : ¬ (cc : Int) < 3 := by omega
        have d3I : decide ((cc : Int) < 3) = false := decide_eq_false h3I
        have HE := hid (show Mk.skipI xs z = ff by rw [HS2.out, if_neg h3])
        clear HS2
        go_wp2_with fail
        refine ⟨by simp, .inl ⟨_, _, rfl, run_takeDeferred HJ9.out.dfr, ?_⟩⟩
        refine ⟨_, results_tmp rfl _ _ _, ?_⟩
        exact ⟨by rw [HE.out]; rfl, HJ9.out.shut.2⟩
end Go.Proofs.Ytmgbjkekfejnfaa
