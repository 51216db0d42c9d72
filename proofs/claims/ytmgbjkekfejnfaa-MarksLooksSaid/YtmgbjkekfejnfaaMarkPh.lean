/- Walks over the program's package marks: Push, whole. -/
import Derived.Test.YtmgbjkekfejnfaaMarkPg
namespace Go.Proofs.Ytmgbjkekfejnfaa
open Go.RowKit Go.Lib
set_option maxRecDepth 100000
set_option linter.unusedVariables false
theorem KeptV.drewN {B : Nat} {w : World} {v : Value} {l : List MR} (h : KeptV B w v l) (k : Nat) : KeptV B (w.drewN k) v l :=
  h.imp (fun ⟨a, h1, h2, h3⟩ => ⟨a, h1, h2, h3.below (bel_drewN (Below.refl _ w) k)⟩) (fun h => h)
theorem kept_end {B : Nat} {w' : World} {v' : Value} {l : List MR} (h : w'.ownsRow B 25 3 v' l.length (mL l)) :
    ∃ a p c, v' = .slice a p c ∧ l.length = p ∧ RowM w' a p l ∧ p ≤ c ∧ c ≤ 9223372036854775807 ∧ NewB w' B 25 a p ∧ (a = none → c = 0) := by
  obtain ⟨a, c, e, hr, h1, h2, h3, h4⟩ := own_rowM h
  exact ⟨a, l.length, c, e, rfl, hr, h1, by unfold maxLen at h2; omega, h3, h4⟩
/-- What renew makes of it. -/
theorem push_end {w V w' : World} {a : Option Addr} {p c : Nat} {l : List MR} {ys : List Mk.M} (hl : l.length = p) (hr : RowM w' a p l) (h1 : p ≤ c) (h2 : c ≤ 9223372036854775807) (h3 : NewB w' V.heap.size 25 a p) (h4 : a = none → c = 0)
    (hwV : Below w.heap.size w V) (hb : Below V.heap.size V w') (hA : AttsM V l ys) (hs : ShortN ys) (hp : p ≤ 4294967296) :
    Calls Try.prog 23 #[.slice a p c] w' fun e w7 => e = .returned (.slice a p c) ∧ NewM w w7 e ys ∧ Below w.heap.size w w7 := by
  refine (prenew_any V w' a p c l ys hr hA hb h3 h1 h2 hp hs).mono ?_
  rintro e w7 ⟨rfl, hM, hN, hB⟩
  have hyl : ys.length = p := by rw [← hA.1, hl]
  subst hyl
  exact ⟨rfl, ⟨a, c, _, rfl, hM, hN.imp id (fun ⟨b, o, cs, q1, q2, q3⟩ => ⟨b, o, cs, q1, q2, Nat.le_trans hwV.size q3⟩), h4⟩, hwV.trans (hB.mono hwV.size)⟩
set_option maxHeartbeats 16000000 in
theorem ppush_any (a : Option Addr) (n c : Nat) (rs : List MR) (xs : List Mk.M) (r : MR) (x : Mk.M) (w : World) (h : MarksIn a n c rs xs w) (g : FitM w r x) (hn : n ≤ 4000000) (hs : ShortN xs) (hx : x.name.length ≤ 281474976710656) :
    Calls Try.prog 9 #[.slice a n c, .agg #[.int .i64 r.id, .string (bs r.name), .slice r.aa r.an r.ac]] w fun e w' => NewM w w' e (Mk.pushL xs x) ∧ Below w.heap.size w w' := by
  obtain ⟨W, hW⟩ : ∃ W, w.alloc (.cells #[.int .i64 r.id, .string (bs r.name), .slice r.aa r.an r.ac] 25) = W := ⟨_, rfl⟩
  have bW : Below w.heap.size w W := by rw [← hW]; exact (Below.refl _ w).alloc (Nat.le_refl _) _
  have B0 : BlkW W w.heap.size #[.int .i64 r.id, .string (bs r.name), .slice r.aa r.an r.ac] 25 := by rw [← hW]; exact BlkW.new w _ _
  have hM := h.below bW
  have hF := g.below bW
  have hrl := h.row.1
  have hln := h.len
  have hc1 := h.cap
  have hc2 := h.cap2
  have HSP := hid (pspare_any a n c rs xs r x W hM hF)
  have HM := hid hM
  have HF := hid hF
  have HSH := hid (hs.push hx)
  have q0 : W.cell? ⟨w.heap.size, 0, none⟩ = some (.int .i64 r.id) := B0.cell 0
  have q1 : W.cell? ⟨w.heap.size, 1, none⟩ = some (.string (bs r.name)) := B0.cell 1
  have q2 : W.cell? ⟨w.heap.size, 2, none⟩ = some (.slice r.aa r.an r.ac) := B0.cell 2
  have HQ := hid fun V (hV : Below W.heap.size W V) => And.intro (cell_up q0 hV) (And.intro (cell_up q1 hV) (cell_up q2 hV))
  have Hb := hid bW
  have HW := hid hW
  have hn1 : (n : Int) ≤ (n : Int) := Int.le_refl _
  have hn2 : (n : Int) ≤ (c : Int) := by omega
  have hn3 : (0 : Int) ≤ (n : Int) := by omega
  have hnil := hid (show a = none → n = 0 from fun e => h.row.2.elim id fun ⟨b, off, e2, _⟩ => by rw [e] at e2; cases e2)
  have HPL := hid (show Mk.pushL xs x = Mk.keepK xs (Mk.skipI xs x) n ++ [x] by unfold Mk.pushL; rw [hln])
  have HSK := hid (Mk.skip_spec xs x)
  clear h g hM hF B0 hW bW hs hx q0 q1 q2
  rcases HSK.out with ⟨hsk, _⟩ | ⟨j, y, hsk, _, _, _, hj, _⟩
  · rw [hsk] at HSP HPL
    clear hsk HSK
    have HPL2 := hid (show Mk.pushL xs x = Mk.keepK xs (-1) n ++ [x] from HPL.out)
    clear HPL
    cases a with
    | none =>
      obtain rfl : n = 0 := hnil.out rfl
      go_enter Try.func9, Try.ntmps9
      go_wp2_with fail
      rw [HW.out]
      refine HSP.out.mono ?_
      rintro e V ⟨rfl, bV⟩
      obtain ⟨z0, z1, z2⟩ := HQ.out V bV
      have HWV := hid (Hb.out.trans (bV.mono Hb.out.size))
      have HAT := hid (((HM.out.atts.below bV).keep (-1) 0).snoc (HF.out.below bV))
      have hkr : Mk.keepK rs (-1) 0 = rs := by rw [Mk.keepK_none, List.take_of_length_le (by omega)]
      rw [hkr] at HAT
      have HKA := hid (KeptV.alloc (show KeptV V.heap.size V (.slice none 0 0) rs from .inl ⟨none, by rw [hrl], (fun _ => by rw [hrl]), by rw [hrl]; exact (HM.out.row.below bV)⟩) (.cells #[.int .i64 r.id, .string (bs r.name), .slice r.aa r.an r.ac] 25))
      have HNW := hid (BlkW.new V #[.int .i64 r.id, .string (bs r.name), .slice r.aa r.an r.ac] 25)
      have HBA := hid ((Below.refl V.heap.size V).alloc (Nat.le_refl _) (.cells #[.int .i64 r.id, .string (bs r.name), .slice r.aa r.an r.ac] 25))
      clear bV HSP HQ HM HF Hb HW hkr
      go_wp2_with (at_builtin; refine append_kept rfl _ _ rfl V.heap.size _ rs rfl HKA.out V.heap.size _ r rfl HNW.out (by omega) (by simp) ?_; intro v' w' o1 b1; have HB1 := hid (HBA.out.trans b1); obtain ⟨a', p', c', hv', hp', hr', h1', h2', h3', h4'⟩ := kept_end o1; subst hv'; clear o1 b1)
      refine (push_end hp' hr' h1' h2' h3' h4' HWV.out HB1.out HAT.out (by rw [← HPL2.out]; exact HSH.out) (by rw [← hp']; simp; omega)).mono ?_
      rintro e w7 ⟨rfl, hN7, b7⟩
      have HE := hid (And.intro hN7 b7)
      clear hr' h3' hN7 b7
      go_wp2
      go_ret
      exact ⟨by rw [HPL2.out]; exact HE.out.1, HE.out.2⟩
    | some a =>
      go_enter Try.func9, Try.ntmps9
      go_wp2_with fail
      rw [HW.out]
      refine HSP.out.mono ?_
      rintro e V ⟨rfl, bV⟩
      obtain ⟨z0, z1, z2⟩ := HQ.out V bV
      have HWV := hid (Hb.out.trans (bV.mono Hb.out.size))
      have HAT := hid (((HM.out.atts.below bV).keep (-1) n).snoc (HF.out.below bV))
      have hkr : Mk.keepK rs (-1) n = rs := by rw [Mk.keepK_none, List.take_of_length_le (by omega)]
      rw [hkr] at HAT
      have HKA := hid (KeptV.alloc (show KeptV V.heap.size V (.slice (some a) n n) rs from .inl ⟨some a, by rw [hrl], (fun e => by cases e), by rw [hrl]; exact (HM.out.row.below bV)⟩) (.cells #[.int .i64 r.id, .string (bs r.name), .slice r.aa r.an r.ac] 25))
      have HNW := hid (BlkW.new V #[.int .i64 r.id, .string (bs r.name), .slice r.aa r.an r.ac] 25)
      have HBA := hid ((Below.refl V.heap.size V).alloc (Nat.le_refl _) (.cells #[.int .i64 r.id, .string (bs r.name), .slice r.aa r.an r.ac] 25))
      clear bV HSP HQ HM HF Hb HW hkr
      go_wp2_with (at_builtin; refine append_kept rfl _ _ rfl V.heap.size _ rs rfl HKA.out V.heap.size _ r rfl HNW.out (by omega) (by simp) ?_; intro v' w' o1 b1; have HB1 := hid (HBA.out.trans b1); obtain ⟨a', p', c', hv', hp', hr', h1', h2', h3', h4'⟩ := kept_end o1; subst hv'; clear o1 b1)
      refine (push_end hp' hr' h1' h2' h3' h4' HWV.out HB1.out HAT.out (by rw [← HPL2.out]; exact HSH.out) (by rw [← hp']; simp; omega)).mono ?_
      rintro e w7 ⟨rfl, hN7, b7⟩
      have HE := hid (And.intro hN7 b7)
      clear hr' h3' hN7 b7
      go_wp2
      go_ret
      exact ⟨by rw [HPL2.out]; exact HE.out.1, HE.out.2⟩
  · rw [hsk] at HSP HPL
    have HPL2 := hid (show Mk.pushL xs x = Mk.keepK xs (j : Int) n ++ [x] from HPL.out)
    have hjn : j < n := by have := (List.getElem?_eq_some_iff.1 hj).1; omega
    clear hsk HSK HPL hj
    obtain ⟨b, off, rfl⟩ : ∃ b off, a = some ⟨b, off, none⟩ := by
      obtain ⟨_, h9 | ⟨b, off, e, _⟩⟩ := HM.out.row
      · omega
      · exact ⟨b, off, e⟩
    have hkr : Mk.keepK rs (j : Int) n = rs.take j ++ rs.drop (j + 1) := by rw [← hrl]; exact Mk.keepK_cut rs j (by omega)
    have hne : ((j : Int) != -1) = true := by simp
    have hj0 : (0 : Int) ≤ (j : Int) := by omega
    have hjj : (j : Int) ≤ (j : Int) := Int.le_refl _
    have hjc : (j : Int) ≤ (c : Int) := by omega
    have hj1 : (j : Int) + 1 ≤ (n : Int) := by omega
    have hj2 : (0 : Int) ≤ (j : Int) + 1 := by omega
    have hj3 : ((j : Int) + 1).toNat = j + 1 := by omega
    have hw : IntKind.i64.wrap ((j : Int) + 1) = (j : Int) + 1 := IntWalk.i64_in _ (by omega)
    go_enter Try.func9, Try.ntmps9
    go_wp2_with fail
    rw [HW.out]
    refine HSP.out.mono ?_
    rintro e V ⟨rfl, bV⟩
    have HQV := hid fun U (hU : Below V.heap.size V U) => HQ.out U (bV.trans (hU.mono bV.size))
    have HWV := hid (Hb.out.trans (bV.mono Hb.out.size))
    have HAT := hid (((HM.out.atts.below bV).keep (j : Int) n).snoc (HF.out.below bV))
    rw [hkr] at HAT
    have HRV := hid (HM.out.row.below bV)
    clear bV HSP HQ HM HF Hb HW hkr
    by_cases hc : n = j + 1
    · subst hc
      have HRL := hid hrl
      clear hrl hln hnil hn1 hn2 hn3 hj1 hjc
      have hj1 : (j : Int) + 1 ≤ (j : Int) + 1 := Int.le_refl _
      have hj1c : (j : Int) + 1 ≤ (c : Int) := by omega
      have hjc : (j : Int) ≤ (c : Int) := by omega
      have hjcN : j ≤ c := by omega
      by_cases hcc : c = j + 1
      · subst hcc
        go_wp2
        go_region
        have HBU := hid (Below.refl V.heap.size V).drew
        have HKU := hid (show KeptV V.heap.size V.drew (.slice (some ⟨b, off, none⟩) j j) (rs.take j ++ rs.drop (j + 1)) from .inl ⟨some ⟨b, off, none⟩, by
          rw [List.drop_of_length_le (by rw [HRL.out]; omega), List.append_nil, List.length_take, HRL.out, show min j (j + 1) = j by omega], (fun e => by cases e), by
          rw [List.drop_of_length_le (by rw [HRL.out]; omega), List.append_nil, List.length_take, HRL.out, show min j (j + 1) = j by omega]
          exact (HRV.out.take (by omega)).below HBU.out⟩)
        obtain ⟨U, hU⟩ : ∃ U, V.drew = U := ⟨_, rfl⟩
        rw [hU] at HBU HKU ⊢
        clear hU
        obtain ⟨z0, z1, z2⟩ := HQV.out U HBU.out
        have HKA := hid (HKU.out.alloc (.cells #[.int .i64 r.id, .string (bs r.name), .slice r.aa r.an r.ac] 25))
        have HNW := hid (BlkW.new U #[.int .i64 r.id, .string (bs r.name), .slice r.aa r.an r.ac] 25)
        have HBA := hid (HBU.out.alloc HBU.out.size (.cells #[.int .i64 r.id, .string (bs r.name), .slice r.aa r.an r.ac] 25))
        have hbz := HBU.out.size
        obtain ⟨ls, hls⟩ : ∃ ls, rs.take j ++ rs.drop (j + 1) = ls := ⟨_, rfl⟩
        rw [hls] at HKA HAT
        have hll : ls.length + 1 = j + 1 := by have := HRL.out; rw [← hls, List.length_append, List.length_take, List.length_drop]; omega
        clear HQV HKU HRV hls
        go_wp2_with (at_builtin; refine append_kept rfl _ _ rfl V.heap.size _ ls rfl HKA.out U.heap.size _ r rfl HNW.out (by omega) (by simp; omega) ?_; intro v' w' o1 b1; have HB1 := hid (HBA.out.trans b1); obtain ⟨a', p', c', hv', hp', hr', h1', h2', h3', h4'⟩ := kept_end o1; subst hv'; clear o1 b1)
        refine (push_end hp' hr' h1' h2' h3' h4' HWV.out HB1.out HAT.out (by rw [← HPL2.out]; exact HSH.out) (by rw [← hp']; simp; omega)).mono ?_
        rintro e w7 ⟨rfl, hN7, b7⟩
        have HE := hid (And.intro hN7 b7)
        clear hr' h3' hN7 b7
        go_wp2
        go_ret
        exact ⟨by rw [HPL2.out]; exact HE.out.1, HE.out.2⟩
      · have hcc' : ¬ j + 1 = c := fun e => hcc e.symm
        go_wp2
        go_region
        have HBU := hid (Below.refl V.heap.size V).drew
        have HKU := hid (show KeptV V.heap.size V.drew (.slice (some ⟨b, off, none⟩) j j) (rs.take j ++ rs.drop (j + 1)) from .inl ⟨some ⟨b, off, none⟩, by
          rw [List.drop_of_length_le (by rw [HRL.out]; omega), List.append_nil, List.length_take, HRL.out, show min j (j + 1) = j by omega], (fun e => by cases e), by
          rw [List.drop_of_length_le (by rw [HRL.out]; omega), List.append_nil, List.length_take, HRL.out, show min j (j + 1) = j by omega]
          exact (HRV.out.take (by omega)).below HBU.out⟩)
        obtain ⟨U, hU⟩ : ∃ U, V.drew = U := ⟨_, rfl⟩
        rw [hU] at HBU HKU ⊢
        clear hU
        obtain ⟨z0, z1, z2⟩ := HQV.out U HBU.out
        have HKA := hid (HKU.out.alloc (.cells #[.int .i64 r.id, .string (bs r.name), .slice r.aa r.an r.ac] 25))
        have HNW := hid (BlkW.new U #[.int .i64 r.id, .string (bs r.name), .slice r.aa r.an r.ac] 25)
        have HBA := hid (HBU.out.alloc HBU.out.size (.cells #[.int .i64 r.id, .string (bs r.name), .slice r.aa r.an r.ac] 25))
        have hbz := HBU.out.size
        obtain ⟨ls, hls⟩ : ∃ ls, rs.take j ++ rs.drop (j + 1) = ls := ⟨_, rfl⟩
        rw [hls] at HKA HAT
        have hll : ls.length + 1 = j + 1 := by have := HRL.out; rw [← hls, List.length_append, List.length_take, List.length_drop]; omega
        clear HQV HKU HRV hls
        go_wp2_with (at_builtin; refine append_kept rfl _ _ rfl V.heap.size _ ls rfl HKA.out U.heap.size _ r rfl HNW.out (by omega) (by simp; omega) ?_; intro v' w' o1 b1; have HB1 := hid (HBA.out.trans b1); obtain ⟨a', p', c', hv', hp', hr', h1', h2', h3', h4'⟩ := kept_end o1; subst hv'; clear o1 b1)
        refine (push_end hp' hr' h1' h2' h3' h4' HWV.out HB1.out HAT.out (by rw [← HPL2.out]; exact HSH.out) (by rw [← hp']; simp; omega)).mono ?_
        rintro e w7 ⟨rfl, hN7, b7⟩
        have HE := hid (And.intro hN7 b7)
        clear hr' h3' hN7 b7
        go_wp2
        go_ret
        exact ⟨by rw [HPL2.out]; exact HE.out.1, HE.out.2⟩
    · have hc' : ¬ j + 1 = n := fun e => hc e.symm
      have hcc : ¬ c = j + 1 := by omega
      have hcc' : ¬ j + 1 = c := by omega
      have HRL := hid hrl
      have HNI := hid hnil
      clear hrl hln hnil
      have HRD := hid (HRV.out.below ((Below.refl V.heap.size V).drew))
      have hVd : V.heap.size ≤ V.drew.heap.size := ((Below.refl V.heap.size V).drew).size
      have HVD := hid hVd
      have HDD := hid ((Below.refl V.heap.size V).drew)
      clear hVd
      go_wp2
      go_region_law (refine step_cutM (w := V.drew) (B := V.heap.size) (b := b) (off := off) (n := n) (i := j) (rs := rs) (m := n - (j + 1)) (c := c - (j + 1)) ?h1 (.tmp 21) (.tmp 25) ?h2 HRD.out hjn ?h3 ⟨b, off + (j + 1) * 3, none⟩ ?h4 ?h5 ?h6 ?h7 HVD.out ?h8; (case h1 => exact rfl); (case h2 => exact rfl); (case h3 => go_simp); (case h4 => go_simp); (case h5 => exact rfl); (case h6 => exact .inr rfl); (case h7 => omega); intro v5 w5 k5 b5; have HKU := hid k5; have HBU := hid (HDD.out.trans b5); clear k5 b5)
      obtain ⟨z0, z1, z2⟩ := HQV.out w5 HBU.out
      have HKA := hid (HKU.out.alloc (.cells #[.int .i64 r.id, .string (bs r.name), .slice r.aa r.an r.ac] 25))
      have HNW := hid (BlkW.new w5 #[.int .i64 r.id, .string (bs r.name), .slice r.aa r.an r.ac] 25)
      have HBA := hid (HBU.out.alloc HBU.out.size (.cells #[.int .i64 r.id, .string (bs r.name), .slice r.aa r.an r.ac] 25))
      have hbz := HBU.out.size
      obtain ⟨ls, hls⟩ : ∃ ls, rs.take j ++ rs.drop (j + 1) = ls := ⟨_, rfl⟩
      rw [hls] at HKA HAT
      have hll : ls.length + 1 = n := by have := HRL.out; rw [← hls, List.length_append, List.length_take, List.length_drop]; omega
      clear HQV HKU HRV hls
      go_wp2_with (at_builtin; refine append_kept rfl _ _ rfl V.heap.size _ ls rfl HKA.out w5.heap.size _ r rfl HNW.out (by omega) (by simp; omega) ?_; intro v' w' o1 b1; have HB1 := hid (HBA.out.trans b1); obtain ⟨a', p', c', hv', hp', hr', h1', h2', h3', h4'⟩ := kept_end o1; subst hv'; clear o1 b1)
      refine (push_end hp' hr' h1' h2' h3' h4' HWV.out HB1.out HAT.out (by rw [← HPL2.out]; exact HSH.out) (by rw [← hp']; simp; omega)).mono ?_
      rintro e w7 ⟨rfl, hN7, b7⟩
      have HE := hid (And.intro hN7 b7)
      clear hr' h3' hN7 b7
      go_wp2
      go_ret
      exact ⟨by rw [HPL2.out]; exact HE.out.1, HE.out.2⟩
end Go.Proofs.Ytmgbjkekfejnfaa
