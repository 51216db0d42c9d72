/- Walks over the program's package marks: Lost. -/
import Derived.Test.YtmgbjkekfejnfaaMarkIs
import Derived.Test.YtmgbjkekfejnfaaMarkIt
import Derived.Test.YtmgbjkekfejnfaaLoopM
import Derived.Scope
import Derived.Deep.LoopGhost
namespace Go.Proofs.Ytmgbjkekfejnfaa
open Go.RowKit Go.Lib
set_option maxRecDepth 100000
set_option linter.unusedVariables false
theorem MarksD.lt {base : Nat} {W : World} : ∀ {ds : List Deferred} {e : Deferred}, MarksD base ds W → e ∈ ds → ∃ b, e = markD b ∧ b < W.heap.size
  | d :: ds, e, ⟨b, h1, _, h2, _, hr⟩, hm => by
    rcases List.mem_cons.1 hm with rfl | hm
    · exact ⟨b, h1, (Array.getElem?_eq_some_iff.1 h2).1⟩
    · exact hr.lt hm
/-- One mark more. -/
theorem MarksD.cons_ {base : Nat} {W0 W : World} {ds : List Deferred} (h : MarksD base ds W0) (hb : base ≤ W0.heap.size) (hd : W.heap[W0.heap.size]? = some (.deferred (some []))) (hk : Below W0.heap.size W0 W) : MarksD base (markD W0.heap.size :: ds) W := by
  refine ⟨W0.heap.size, rfl, hb, hd, fun e he => ?_, h.up fun b hbb hm => ?_⟩
  · obtain ⟨b, rfl, hlt⟩ := h.lt he
    intro e2
    have : b = W0.heap.size := by
      have := congrArg Deferred.target e2
      simpa [markD] using this
    omega
  · have hlt := (Array.getElem?_eq_some_iff.1 hbb).1
    exact (hk.block b hlt).trans hbb
theorem MarksD.below {base : Nat} {W0 W : World} {ds : List Deferred} (h : MarksD base ds W0) (hk : Below W0.heap.size W0 W) : MarksD base ds W :=
  h.up fun b hbb hm => (hk.block b (Array.getElem?_eq_some_iff.1 hbb).1).trans hbb
/-- What holds ahead of each round. -/
def LtInv (w : World) (xs : List Mk.M) (ids : List Int) (n : Nat) (R : Nat) (k : Nat) (ds : List Deferred) (wr : World) : Prop := Mk.lostN xs ids k = R ∧ k ≤ n ∧ Below w.heap.size w wr ∧ MarksD w.heap.size ds wr
attribute [local go_sem] Oper.semAt_some
set_option maxHeartbeats 16000000 in
theorem plost_any (a : Option Addr) (n c : Nat) (rs : List MR) (xs : List Mk.M) (oa : Option Addr) (on oc : Nat) (l : List Opn.E) (w : World) (h : MarksIn a n c rs xs w) (g : IsE w oa on l) (ho : on ≤ 4294967296) :
    Calls Try.prog 19 #[.slice a n c, .slice oa on oc] w fun e w' => e = .returned (.int .i64 (Mk.lostN xs (l.map (·.id)) n)) ∧ Below w.heap.size w w' := by
  have HH := hid h
  have HG := hid g
  have hf := h.few
  have hll := g.1
  obtain ⟨ids, hids⟩ : ∃ ids, l.map (·.id) = ids := ⟨_, rfl⟩
  rw [hids]
  have HID := hid hids
  obtain ⟨R, hR⟩ : ∃ R, Mk.lostN xs ids n = R := ⟨_, rfl⟩
  rw [hR]
  have HR := hid hR
  clear h hR g hids
  refine (callsIn_wide (n := 3)).1 ?_
  refine callsIn_of_wp_marks Try.func19 rfl trivial ?_ rfl
  simp only [Try.ntmps19, List.size_toArray, List.length_cons, List.length_nil, Nat.reduceAdd, Nat.reduceSub, Array.replicate_succ, Array.replicate_zero, List.push_toArray, List.append_toArray, List.nil_append, List.cons_append]
  refine wpIn_wide.2 ?_
  go_wp2_with fail
  refine wp_scope_straight ?_
  go_wp2_with fail
  refine wp_label ?_
  go_wp2_with fail
  refine wp_loop_ghost_k (fun k a' wr => ∃ (ds : List Deferred) (u6 u8 u11 u12 u13 u14 u15 u16 u17 u18 u19 u20 u21 u22 u23 u24 u25 u26 u27 u28 u29 u30 : Value), Hid (LtInv w xs ids n R k ds wr) ∧ a' = { tmps := #[.slice a n c, .slice oa on oc, undef, undef, .int .i64 0, .int .i64 (k : Int), u6, undef, u8, .slice a n c, .int .i64 (n : Int), u11, u12, u13, u14, u15, u16, u17, u18, u19, u20, u21, u22, u23, u24, u25, u26, u27, u28, u29, u30, undef], defers := ds }) n ?_ ?_
  · (repeat apply Exists.intro)
    refine ⟨?_, rfl⟩
    exact hid ⟨HR.out, Nat.le_refl _, Below.refl _ _, True.intro⟩
  · rintro kk a' wr ⟨ds, u6, u8, u11, u12, u13, u14, u15, u16, u17, u18, u19, u20, u21, u22, u23, u24, u25, u26, u27, u28, u29, u30, hI, rfl⟩ J K hJ hK
    by_cases h0 : kk = 0
    · subst h0
      have hR0 : R = 0 := hI.out.1.symm
      have HR0 := hid hR0
      clear hR0
      go_wp2_with fail
      refine marks_leave _ _ (Nat.le_refl _) hI.out.2.2.2 hI.out.2.2.1 ?_
      intro W' hb'
      refine ⟨_, results_tmp rfl _ _ _, ?_⟩
      exact ⟨by rw [HR0.out]; rfl, hb'⟩
    · obtain ⟨k, rfl⟩ : ∃ k, kk = k + 1 := ⟨kk - 1, by omega⟩
      obtain ⟨hR1, hkn, hb, hmd⟩ := hI.out
      clear hI h0
      obtain ⟨blk, off, r, x, rfl, hr, hx, f, c0, c1, c2⟩ := (HH.out.below hb).get (show k < n by omega)
      rw [Mk.lostN_step hx] at hR1
      have hR1 := hid hR1
      have hkn1 : (k : Int) < (n : Int) := by omega
      have hkn2 : k < n := by omega
      have hk0 : (0 : Int) ≤ (k : Int) := by omega
      have hk1 : (0 : Int) < (k : Int) + 1 := by omega
      have hk2 : decide ((0 : Int) < (k : Int) + 1) = true := decide_eq_true hk1
      have kk1 : ((k + 1 : Nat) : Int) = (k : Int) + 1 := by omega
      rw [kk1]
      clear f hr hx kk1
      generalize x.id = z at *
      generalize bs x.name = X at *
      have HB := hid hb
      have HMD := hid hmd
      have b1 := (Below.refl wr.heap.size wr).alloc (Nat.le_refl _) (.cells #[.int .i64 z, .string X, .slice r.aa r.an r.ac] 25)
      have k1 := BlkW.new wr #[.int .i64 z, .string X, .slice r.aa r.an r.ac] 25
      obtain ⟨H, hH⟩ : ∃ H, wr.heap.size = H := ⟨_, rfl⟩
      have HMK := hid (marker_any z X r.aa r.an r.ac (wr.alloc (.cells #[.int .i64 z, .string X, .slice r.aa r.an r.ac] 25)))
      have HB1 := hid (And.intro b1 k1)
      have HH2 := hid hH
      clear b1 k1 hb hmd hH
      go_wp2_with fail
      refine HMK.out.mono ?_
      rintro e W2 ⟨rfl, b2⟩
      have HB2 := hid (HB1.out.1.trans (b2.mono HB1.out.1.size))
      have HK2 := hid (HB1.out.2.below b2 HB1.out.2.lt)
      clear HMK HB1 b2
      have HBW := hid (HB.out.trans (HB2.out.mono HB.out.size))
      have HMW := hid (HMD.out.below HB2.out)
      by_cases hneg : z < 0
      · have d1 : decide (z < 0) = true := decide_eq_true hneg
        have HE := hid (show R = k + 1 by rw [← hR1.out, if_pos (.inl hneg)])
        clear hneg hR1 c0 c1 c2
        go_wp2_with fail
        refine marks_leave _ _ (Nat.le_refl _) HMW.out HBW.out ?_
        intro W' hb'
        refine ⟨_, results_tmp rfl _ _ _, ?_⟩
        exact ⟨by rw [HE.out]; rfl, hb'⟩
      · have d1 : decide (z < 0) = false := decide_eq_false hneg
        have hR2 := hid (show (if z ∈ ids then k + 1 else Mk.lostN xs ids k) = R by
          rw [← hR1.out]
          by_cases hz : z ∈ ids
          · rw [if_pos hz, if_pos (.inr hz)]
          · rw [if_neg hz, if_neg (fun h => h.elim hneg hz)])
        clear hneg hR1 c0 c1 c2
        go_wp2_with fail
        refine (obackward_any oa on oc _).mono ?_
        rintro e w' ⟨rfl, rfl⟩
        obtain ⟨lv, hlv⟩ : ∃ lv : Value, lv = .slice oa on oc := ⟨_, rfl⟩
        have HLV := hid hlv
        rw [← hlv]
        have b3 := (Below.refl W2.heap.size W2).alloc (Nat.le_refl _) (.cells #[lv] 32)
        have k3 := BlkW.new W2 #[lv] 32
        have HB3 := hid (HBW.out.trans (b3.mono HBW.out.size))
        have HM3 := hid (HMW.out.below b3)
        have HK3 := hid (HK2.out.below b3 HK2.out.lt)
        obtain ⟨P, hP⟩ : ∃ P, W2.heap.size = P := ⟨_, rfl⟩
        rw [hP] at k3 ⊢
        obtain ⟨W0, hW0⟩ : ∃ W0, W2.alloc (.cells #[lv] 32) = W0 := ⟨_, rfl⟩
        rw [hW0] at HB3 HM3 HK3 k3 ⊢
        have HKP := hid k3
        clear HBW HMW HB2 HK2 b3 k3 hlv hP hW0
        go_wp2_with fail
        refine (wpIn_wide (n := 3)).1 ?_
        refine range_at3 (F := Fence.wide) rfl (fun h => by simp [Fence.wide] at h) (gf := 36) (lb := #[.pointer (some ⟨P, 0, none⟩)]) rfl trivial (enters_of Try.func36 (by kernel_rfl) rfl) fun fn _ => ?_
        have HST := hid fun r => LoopM.start (w := W0) (W := W0) (bl := []) r (fun x hx => by cases hx) (fun x hx => by cases hx) (Below.refl _ _)
        obtain ⟨L, hL⟩ : ∃ L, W0.heap.size = L := ⟨_, rfl⟩
        rw [hL] at HST ⊢
        have HL := hid hL
        clear hL
        generalize hr : recOf _ _ _ _ _ _ LoopState.ready = rr
        have hY : ∀ (q : Nat) (x : Opn.E) (W : World), l[q]? = some x → (LoopM W0 L rr [] W ∧ ∀ i v, q + 1 ≤ i → ids[i]? = some v → v ≠ z) →
            YieldAt Fence.wide (2 - 1) Try.prog (L + 1) #[.int .i64 q, .agg #[.int .i64 x.id, .int .u8 x.space, .string (bs x.name), .int .u8 x.point]] W fun e W' => (e = .returned (.bool true) ∧ LoopM W0 L rr [] W' ∧ ∀ i v, q ≤ i → ids[i]? = some v → v ≠ z) ∨
              (e = .returned (.bool false) ∧ LoopM W0 L (leftJ rr (.exit 0)) [] W' ∧ z ∈ ids) := by
          rintro q x W hx ⟨hJ, hV⟩
          have hst : rr.state = .ready := by rw [← hr]; rfl
          have hpe : rr.pending = none := by rw [← hr]; rfl
          have hfn : Fence.wide.fn rr.fn := trivial
          have ha := congrArg Loop.assign hr
          have hb := congrArg Loop.body hr
          have hpp := congrArg Loop.params hr
          have htm := congrArg Loop.tmps hr
          dsimp only [recOf] at ha hb hpp htm
          refine round_at3 hJ.rcd hst hpe (by rw [← hpp]; rfl) hfn ?_
          rw [← ha, ← hb, ← hpp, ← htm]
          clear ha hb hpp htm hr hst hpe hfn
          have hq : ids[q]? = some x.id := by rw [← HID.out, List.getElem?_map, hx]; rfl
          have HQ := hid hq
          have HV := hid hV
          -- the element in a block of its own
          have A1 := hJ.up ((Below.refl W.heap.size W).alloc (Nat.le_refl _) (.cells #[.int .i64 x.id, .int .u8 x.space, .string (bs x.name), .int .u8 x.point] 46))
          have cE := BlkW.new W #[.int .i64 x.id, .int .u8 x.space, .string (bs x.name), .int .u8 x.point] 46
          have sE : W.heap.size ≠ L + 1 := by
            have := hJ.size
            omega
          clear hJ hV hx hq
          gi_wp2
          refine ⟨A1.rcd, ?_⟩
          have J2 := A1.busy (busyR rr)
          have cE2 : BlkW ((W.alloc (.cells #[.int .i64 x.id, .int .u8 x.space, .string (bs x.name), .int .u8 x.point] 46)).putObj (L + 1) (.loop (busyR rr))) W.heap.size #[.int .i64 x.id, .int .u8 x.space, .string (bs x.name), .int .u8 x.point] 46 := (World.putObj_heap_other sE).trans cE
          obtain ⟨W3, hW3⟩ : ∃ W3, (W.alloc (.cells #[.int .i64 x.id, .int .u8 x.space, .string (bs x.name), .int .u8 x.point] 46)).putObj (L + 1) (.loop (busyR rr)) = W3 := ⟨_, rfl⟩
          rw [hW3] at J2 cE2 ⊢
          have e0 := cE2.cell 0
          have m0 := (HK3.out.below J2.below HK3.out.lt).cell 0
          simp only [List.getElem?_toArray, List.getElem?_cons_zero] at e0 m0
          have HJ2 := hid J2
          obtain ⟨B, hB⟩ : ∃ B, W.heap.size = B := ⟨_, rfl⟩
          rw [hB] at e0 ⊢
          clear J2 A1 cE cE2 hW3 sE hB
          generalize x.id = v at *
          by_cases hvz : v = z
          · have d2 : (v == z) = true := by simp [hvz]
            have HE := hid (show z ∈ ids from by rw [← hvz]; exact List.mem_of_getElem? HQ.out)
            clear hvz HV
            gi_wp2
            exact ⟨HJ2.out.rcd, .inr ⟨rfl, HJ2.out.busy _, HE.out⟩⟩
          · have d2 : (v == z) = false := by simp [hvz]
            have HE := hid (show ∀ i u, q ≤ i → ids[i]? = some u → u ≠ z from fun i u hi hu => by
              by_cases e : i = q
              · rw [e, HQ.out] at hu
                cases hu
                exact hvz
              · exact HV.out i u (by omega) hu)
            clear hvz HV
            gi_wp2
            exact ⟨HJ2.out.rcd, .inl ⟨rfl, HJ2.out.busy _, HE.out⟩⟩
        have hg0 := (HG.out.below HB3.out)
        refine (obacks_any oa on oc l W0 hg0 ho (L + 1) ⟨P, 0, none⟩ (fun q W => LoopM W0 L rr [] W ∧ ∀ i v, q ≤ i → ids[i]? = some v → v ≠ z)
          (fun W' => LoopM W0 L (leftJ rr (.exit 0)) [] W' ∧ z ∈ ids) (fun q W hJ => ⟨hJ.1.below, by rw [← HLV.out]; exact ((HKP.out.below hJ.1.below HKP.out.lt).cell 0).trans rfl⟩) hY _ ⟨HST.out rr, fun i v hi hv => by
            have := (List.getElem?_eq_some_iff.1 hv).1
            have h9 : ids.length = l.length := by rw [← HID.out, List.length_map]
            omega⟩).mono ?_
        rintro e W ⟨hv, ⟨hJ, hno⟩ | ⟨hJ, hyes⟩⟩
        · refine ⟨hv, .inl ⟨hJ.rcd, ?_⟩⟩
          have J9 := hJ.busy (overR rr)
          obtain ⟨W9, hW9⟩ : ∃ W9, W.putObj (L + 1) (.loop (overR rr)) = W9 := ⟨_, rfl⟩
          rw [hW9] at J9 ⊢
          have hzn : z ∉ ids := fun hz => by
            obtain ⟨i, hi⟩ := List.getElem?_of_mem hz
            exact hno i z (Nat.zero_le _) hi rfl
          have hd9 := J9.dfr
          have HI9 := hid (show LtInv w xs ids n R k (markD L :: ds) W9 from ⟨by rw [← hR2.out, if_neg hzn], by omega, HB3.out.trans (J9.below.mono HB3.out.size), by
            rw [← HL.out] at hd9 ⊢
            exact HM3.out.cons_ HB3.out.size hd9 J9.below⟩)
          clear hY hr hJ hW9 J9 hno hzn hd9 hR2
          rw [HLV.out]
          go_wp2_with fail
          go_roundg k
          case measure => omega
          case rel => exact HI9
        · refine ⟨hv, .inr ⟨_, hJ.rcd, ?_⟩⟩
          have J9 := hJ.busy (overR (leftJ rr (.exit 0)))
          obtain ⟨W9, hW9⟩ : ∃ W9, W.putObj (L + 1) (.loop (overR (leftJ rr (.exit 0)))) = W9 := ⟨_, rfl⟩
          rw [hW9] at J9 ⊢
          have hd9 := J9.dfr
          have HE := hid (show R = k + 1 by rw [← hR2.out, if_pos hyes])
          have HBX := hid (HB3.out.trans (J9.below.mono HB3.out.size))
          have HMX := hid (show MarksD w.heap.size (markD L :: ds) W9 by
            rw [← HL.out] at hd9 ⊢
            exact HM3.out.cons_ HB3.out.size hd9 J9.below)
          clear hY hr hJ hW9 J9 hyes hd9 hR2
          refine wpIn_wide.2 ?_
          go_wp2_with fail
          refine marks_leave _ _ (Nat.le_refl _) HMX.out HBX.out ?_
          intro W' hb'
          refine ⟨_, results_tmp rfl _ _ _, ?_⟩
          exact ⟨by rw [HE.out]; rfl, hb'⟩
end Go.Proofs.Ytmgbjkekfejnfaa
