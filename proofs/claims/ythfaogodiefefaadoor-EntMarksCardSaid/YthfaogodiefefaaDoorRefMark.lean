/- Walks over the reference of layer 3: Mark. -/
import Derived.Test.YthfaogodiefefaaDoorRefOne
namespace Go.Proofs.YthfaogodiefefaaDoor
open Go.RowKit Go.Lib Ent
set_option maxRecDepth 100000
set_option linter.unusedVariables false

theorem rchar_char (n : Int) : ∃ c : Nat, charZ n = c ∧ OkC c ∧ (charZ n).toNat = c := by
  have h := numZ_ok n
  have h2 := charZ_okC n
  exact ⟨(charZ n).toNat, by omega, h2.2, rfl⟩
def rmarkV (l : List UInt8) : Ending := .returned (.tuple #[.string ⟨(Ent.mark l).1.toArray⟩, .int .i64 (Ent.mark l).2])
theorem rmarkV_eq {l i : List UInt8} {n : Nat} (h : Ent.mark l = (i, n)) : rmarkV l = .returned (.tuple #[.string ⟨i.toArray⟩, .int .i64 n]) := by unfold rmarkV; rw [h]
/-- None of the first k names stands there. -/
def NoneTo (l : List UInt8) (k : Nat) : Prop := ∀ j (h : j < tab.length), j < k → (pat tab[j]).isPrefixOf l = false
theorem NoneTo.step {l : List UInt8} {k : Nat} (h : NoneTo l k) (hk : k < tab.length) (hn : (pat tab[k]).isPrefixOf l = false) : NoneTo l (k + 1) := by
  intro j hj hlt
  rcases Nat.lt_succ_iff_lt_or_eq.1 hlt with h1 | h1
  · exact h j hj h1
  · subst h1; exact hn
theorem row_found {l : List UInt8} {k : Nat} (h : NoneTo l k) (hk : k < tab.length) (hy : (pat tab[k]).isPrefixOf l = true) : rowMark l = (isOf tab[k], (nm tab[k]).length + 2) := by
  have hf : tab.find? (fun r => (pat r).isPrefixOf l) = some tab[k] := by
    rw [List.find?_eq_some_iff_getElem]
    exact ⟨hy, k, hk, rfl, fun j hj => by rw [h j (by omega) hj]; rfl⟩
  unfold rowMark
  rw [hf]
theorem row_none {l : List UInt8} (h : NoneTo l 98) : rowMark l = ([], 0) := by
  have hf : tab.find? (fun r => (pat r).isPrefixOf l) = none := by
    rw [List.find?_eq_none]
    intro r hr hy
    obtain ⟨j, hj, rfl⟩ := List.getElem_of_mem hr
    rw [h j hj (by rw [tab_size] at hj; exact hj)] at hy
    exact absurd hy (by decide)
  unfold rowMark
  rw [hf]

set_option maxHeartbeats 4000000 in
theorem rmark_rows (s : ByteArray) (w : World) (hs : s.size ≤ 1000000) (hn : numericE s.data.toList = .returned (.tuple #[.int .i64 0, .int .i64 0, .int .i64 0])) (hd : s.data.toList ≠ [] → U8.B s.data.toList 0 = 38 → digs (s.data.toList.drop 1) = []) :
    Calls Tryd.prog 18 #[.string s] w fun e w' => e = rmarkV s.data.toList ∧ Below w.heap.size w w' := by
  have HNu := fun w => rnumeric_any s w hs
  rw [hn] at HNu
  have HNu := hid HNu
  have hM := rowMark_eq _ hd
  have HM := hid hM
  clear hM hn hd
  go_enter Tryd.func18, Tryd.ntmps18
  go_wp2_with fail
  refine (HNu.out _).mono ?_
  rintro e w' ⟨rfl, rfl⟩
  go_wp2_with fail
  refine (rnames_any w).mono ?_
  rintro e w1 ⟨g, rfl, hb, hN⟩
  have HB := hid hb
  have HN := hid hN
  clear hb hN
  go_wp2
  go_loopg [10] 98 (fun gk i wx => ∃ k : Nat, k + gk = 98 ∧ i = .int .i64 k ∧ Hid (NoneTo s.data.toList k) ∧ wx = w1)
  case atStart => exact ⟨0, by omega, rfl, hid (fun j _ h => by omega), rfl⟩
  case round =>
    obtain ⟨k, hk, rfl, hno, rfl⟩ := hrel
    by_cases hlt : k < 98
    · have hr : tab[k]'hlt ∈ tab := List.getElem_mem _
      obtain ⟨c0, c1, c2⟩ := HN.out k hlt
      have hlen := tab_len _ hr
      have hyes := row_found hno.out hlt
      have hstep := hno.out.step hlt
      generalize tab[k]'hlt = r at *
      obtain ⟨X, hX⟩ : ∃ X : ByteArray, X = ⟨(nm r).toArray⟩ := ⟨_, rfl⟩
      obtain ⟨Y, hY⟩ : ∃ Y : ByteArray, Y = ⟨(isOf r).toArray⟩ := ⟨_, rfl⟩
      have hXl : X.data.toList = nm r := by rw [hX]
      have hXs : X.size = (nm r).length := by rw [size_eq, hXl]
      rw [← hX] at c0
      rw [← hY] at c1
      have HB1 := fun w => rbegins_any s ((⟨#[38]⟩ : ByteArray) ++ X ++ ⟨#[59]⟩) w hs (by rw [cat_size, cat_size]; show 1 + X.size + 1 ≤ _; omega)
      rw [cat_list, cat_list, hXl, show (⟨#[59]⟩ : ByteArray).data.toList = [59] from rfl, show (⟨#[38]⟩ : ByteArray).data.toList = [38] from rfl] at HB1
      obtain ⟨b1, hb1⟩ : ∃ b1, (pat r).isPrefixOf s.data.toList = b1 := ⟨_, rfl⟩
      rw [show List.isPrefixOf ([38] ++ nm r ++ [59] : List UInt8) s.data.toList = b1 from hb1] at HB1
      rw [hb1] at hyes hstep
      have hcs : ((⟨#[38]⟩ : ByteArray) ++ X).size = 1 + X.size := by rw [cat_size]; rfl
      have H1 := hid HB1
      have hX8 : X.size ≤ 8 := by omega
      cases b1 with
      | false =>
        have HS := hid (hstep rfl)
        clear hX hY hXl hXs HB1 hb1 hyes hstep hno hlen hr HN
        go_wp2_with fail
        refine (H1.out _).mono ?_
        rintro e w' ⟨rfl, rfl⟩
        go_wp2
        go_roundg (98 - (k + 1))
        case measure => omega
        case rel => exact ⟨k + 1, by omega, by go_num, HS, rfl⟩
      | true =>
        have hE := rmarkV_eq (HM.out.symm.trans (hyes rfl))
        rw [← hY, ← hXs] at hE
        have HE := hid hE
        clear hX hY hXl hXs HB1 hb1 hyes hstep hno hlen hr HN hE
        go_wp2_with fail
        refine (H1.out _).mono ?_
        rintro e w' ⟨rfl, rfl⟩
        have hlI : (k : Int) < 98 := by omega
        have hsum : IntKind.i64.wrap ((X.size : Int) + 2) = (X.size : Int) + 2 := by simp (disch := omega) only [IntWalk.i64_in]
        go_wp2
        go_quiet (fail)
        go_wp2
        go_ret2
        exact ⟨by rw [HE.out]; exact ret_si _ (by omega), bel_drewN HB.out nq⟩
    · have hk98 : k = 98 := by omega
      subst hk98
      have HE := hid (rmarkV_eq (HM.out.symm.trans (row_none hno.out)))
      clear hno HN
      go_wp2
      go_ret2
      exact ⟨HE.out.symm, HB.out⟩
set_option maxHeartbeats 2000000 in
theorem rmark_any (s : ByteArray) (w : World) (hs : s.size ≤ 1000000) :
    Calls Tryd.prog 18 #[.string s] w fun e w' => e = rmarkV s.data.toList ∧ Below w.heap.size w w' := by
  have hsl := size_list s
  by_cases h : ∃ q, s.data.toList = 38 :: q ∧ digs q ≠ []
  · obtain ⟨q, hq, hd⟩ := h
    have hql : q.length + 1 = s.size := by rw [← hsl, hq]; simp
    have HN := fun w => rnumeric_any s w hs
    rw [numeric_of hq hd] at HN
    have hm : Ent.mark s.data.toList = markR q := by rw [hq]; show (if (38 : UInt8) = 38 then markR q else ([], 0)) = _; rw [if_pos rfl]
    have e : markR q = if mostOf q < (digs q).length ∨ signAt q (numW q) = false then ([], 0) else (encN (charZ (numV q)).toNat, 2 + numW q) := by unfold markR; rw [if_pos hd]
    have h1 := digs_le hd
    obtain ⟨c, hc1, hc2, hc3⟩ := rchar_char (numV q)
    rw [hc3] at e
    have hcm := charZ_min (numV q) 100000000 (by omega)
    rw [hc1] at hcm
    have hR := fun w => rrightI_any (min (numV q : Int) 100000000) w
    have hxq : isX q = decide (U8.B s.data.toList 2 = 120 ∨ U8.B s.data.toList 2 = 88) := by
      unfold isX
      rw [show U8.B s.data.toList 2 = U8.B q 1 from B_tail hq 1]
      exact decide_eq_decide.2 ⟨fun ⟨_, b⟩ => b, fun b => ⟨by omega, b⟩⟩
    have hmo : mostOf q = if U8.B s.data.toList 2 = 120 ∨ U8.B s.data.toList 2 = 88 then 6 else 7 := by
      unfold mostOf
      rw [hxq]
      simp only [decide_eq_true_eq]
    obtain ⟨V, hV⟩ : ∃ V, min (numV q : Int) 100000000 = V := ⟨_, rfl⟩
    obtain ⟨W, hW⟩ : ∃ W, numW q = W := ⟨_, rfl⟩
    obtain ⟨D, hD⟩ : ∃ D, (digs q).length = D := ⟨_, rfl⟩
    have hV0 : 0 ≤ V ∧ V ≤ 100000000 := by omega
    rw [hV] at HN hR hcm
    rw [hW] at HN h1 e
    rw [hD] at HN e
    have es : signAt q W = decide (W + 1 < s.size ∧ U8.B s.data.toList (W + 1) = 59) := by
      unfold signAt
      rw [B_tail hq W]
      exact decide_eq_decide.2 ⟨fun ⟨a, b⟩ => ⟨by omega, b⟩, fun ⟨a, b⟩ => ⟨by omega, b⟩⟩
    rw [es] at e
    have hWs : W + 1 ≤ s.size := by omega
    have h2s : 2 < s.size := by omega
    rw [show ((1 + W : Nat) : Int) = 1 + (W : Int) by omega] at HN
    have hg2 := get_of s 2 h2s
    obtain ⟨x2, hx2⟩ : ∃ c, (s[2]'h2s) = c := ⟨_, rfl⟩
    rw [hx2] at hg2
    rw [← hg2] at hmo
    have HN := hid HN
    have HC := hid (fun w => conv_one w c hc2)
    have tp : decide ((0 : Int) < 1 + (W : Int)) = true := decide_eq_true (by omega)
    -- the character
    have HR : Hid (∃ b : Bool, rightI V = b ∧ (b = true → V = (c : Int)) ∧ (b = false → c = 65533)) := hid (by
      refine ⟨rightI V, rfl, fun h => ?_, fun h => ?_⟩
      · unfold charZ at hcm; rw [if_pos h] at hcm; exact hcm
      · unfold charZ at hcm; rw [if_neg (by rw [h]; decide)] at hcm; omega)
    obtain ⟨rb, hrb, hrt, hrf⟩ := HR.out
    rw [hrb] at hR
    have hR := hid hR
    have hcl : c ≤ 1114111 := by unfold OkC at hc2; omega
    obtain ⟨hV1, hV2⟩ := hV0
    clear hV hW hD h1 hd hc1 hc3 es hq hql hg2 hxq hcm hrb HR
    by_cases m1 : x2.toNat = 120
    · have t2 : ((x2.toNat : Int) == 120) = true := by rw [m1]; rfl
      rw [if_pos (.inl m1)] at hmo
      rw [hmo] at e
      clear hmo m1
      by_cases hmd : 6 < D
      · rw [if_pos (.inl hmd)] at e
        have HE := hid (rmarkV_eq (hm.trans e))
        have d1 : decide ((6 : Int) < (D : Int)) = true := decide_eq_true (by omega)
        clear e hm hmd HC hR hrt hrf
        go_enter Tryd.func18, Tryd.ntmps18
        go_wp2_with fail
        refine (HN.out _).mono ?_
        rintro e w' ⟨rfl, rfl⟩
        go_wp2
        go_ret2
        exact ⟨HE.out.symm, Below.refl _ _⟩
      · have d1 : decide ((6 : Int) < (D : Int)) = false := decide_eq_false (by omega)
        by_cases hlt : 1 + W < s.size
        · have hg := get_of s (1 + W) hlt
          obtain ⟨c1, hcc⟩ : ∃ c, (s[1 + W]'hlt) = c := ⟨_, rfl⟩
          rw [hcc, Nat.add_comm 1 W] at hg
          rw [← hg] at e
          clear hg
          have d2 : decide ((s.size : Int) ≤ (1 : Int) + (W : Int)) = false := decide_eq_false (by omega)
          by_cases h59 : c1.toNat = 59
          · rw [decide_eq_true (⟨by omega, h59⟩ : W + 1 < s.size ∧ c1.toNat = 59), if_neg (by simp; omega)] at e
            have HE := hid (rmarkV_eq (hm.trans e))
            have t1 : ((c1.toNat : Int) != 59) = false := by rw [h59]; rfl
            clear e h59 hm hmd
            cases rb with
            | true =>
              have hvc := hrt rfl
              subst hvc
              clear hrt hrf
              go_enter Tryd.func18, Tryd.ntmps18
              go_wp2_with fail
              refine (HN.out _).mono ?_
              rintro e w' ⟨rfl, rfl⟩
              go_wp2_with fail
              refine (hR.out _).mono ?_
              rintro e w1 ⟨rfl, rfl⟩
              have hcv := HC.out w
              go_wp2
              go_ret2
              exact ⟨by rw [HE.out]; exact ret_si _ (by omega), (Below.refl _ _).alloc (Nat.le_refl _) _⟩
            | false =>
              have hvc := hrf rfl
              subst hvc
              clear hrt hrf
              go_enter Tryd.func18, Tryd.ntmps18
              go_wp2_with fail
              refine (HN.out _).mono ?_
              rintro e w' ⟨rfl, rfl⟩
              go_wp2_with fail
              refine (hR.out _).mono ?_
              rintro e w1 ⟨rfl, rfl⟩
              have hcv : (convert 46 9 (.slice (some ⟨w.heap.size, 0, none⟩) 1 1)).run Tryd.prog (w.alloc (.cells #[.int .i32 65533] 21)) = .ok (.string ⟨(encN 65533).toArray⟩) (w.alloc (.cells #[.int .i32 65533] 21)) := HC.out w
              go_wp2
              go_ret2
              exact ⟨by rw [HE.out]; exact ret_si _ (by omega), (Below.refl _ _).alloc (Nat.le_refl _) _⟩
          · rw [decide_eq_false (fun h => h59 h.2 : ¬ (W + 1 < s.size ∧ c1.toNat = 59)), if_pos (.inr rfl)] at e
            have HE := hid (rmarkV_eq (hm.trans e))
            have t1 : ((c1.toNat : Int) != 59) = true := bne_iff_ne.2 (by omega)
            clear e h59 hm hmd HC hR hrt hrf
            go_enter Tryd.func18, Tryd.ntmps18
            go_wp2_with fail
            refine (HN.out _).mono ?_
            rintro e w' ⟨rfl, rfl⟩
            go_wp2
            go_ret2
            exact ⟨HE.out.symm, Below.refl _ _⟩
        · rw [decide_eq_false (fun h => by omega : ¬ (W + 1 < s.size ∧ U8.B s.data.toList (W + 1) = 59)), if_pos (.inr rfl)] at e
          have HE := hid (rmarkV_eq (hm.trans e))
          have d2 : decide ((s.size : Int) ≤ (1 : Int) + (W : Int)) = true := decide_eq_true (by omega)
          clear e hm hmd HC hR hrt hrf
          go_enter Tryd.func18, Tryd.ntmps18
          go_wp2_with fail
          refine (HN.out _).mono ?_
          rintro e w' ⟨rfl, rfl⟩
          go_wp2
          go_ret2
          exact ⟨HE.out.symm, Below.refl _ _⟩
    · have t2 : ((x2.toNat : Int) == 120) = false := beq_eq_false_iff_ne.2 (by omega)
      by_cases m2 : x2.toNat = 88
      · have t3 : ((x2.toNat : Int) == 88) = true := by rw [m2]; rfl
        rw [if_pos (.inr m2)] at hmo
        rw [hmo] at e
        clear hmo m1 m2
        by_cases hmd : 6 < D
        · rw [if_pos (.inl hmd)] at e
          have HE := hid (rmarkV_eq (hm.trans e))
          have d1 : decide ((6 : Int) < (D : Int)) = true := decide_eq_true (by omega)
          clear e hm hmd HC hR hrt hrf
          go_enter Tryd.func18, Tryd.ntmps18
          go_wp2_with fail
          refine (HN.out _).mono ?_
          rintro e w' ⟨rfl, rfl⟩
          go_wp2
          go_ret2
          exact ⟨HE.out.symm, Below.refl _ _⟩
        · have d1 : decide ((6 : Int) < (D : Int)) = false := decide_eq_false (by omega)
          by_cases hlt : 1 + W < s.size
          · have hg := get_of s (1 + W) hlt
            obtain ⟨c1, hcc⟩ : ∃ c, (s[1 + W]'hlt) = c := ⟨_, rfl⟩
            rw [hcc, Nat.add_comm 1 W] at hg
            rw [← hg] at e
            clear hg
            have d2 : decide ((s.size : Int) ≤ (1 : Int) + (W : Int)) = false := decide_eq_false (by omega)
            by_cases h59 : c1.toNat = 59
            · rw [decide_eq_true (⟨by omega, h59⟩ : W + 1 < s.size ∧ c1.toNat = 59), if_neg (by simp; omega)] at e
              have HE := hid (rmarkV_eq (hm.trans e))
              have t1 : ((c1.toNat : Int) != 59) = false := by rw [h59]; rfl
              clear e h59 hm hmd
              cases rb with
              | true =>
                have hvc := hrt rfl
                subst hvc
                clear hrt hrf
                go_enter Tryd.func18, Tryd.ntmps18
                go_wp2_with fail
                refine (HN.out _).mono ?_
                rintro e w' ⟨rfl, rfl⟩
                go_wp2_with fail
                refine (hR.out _).mono ?_
                rintro e w1 ⟨rfl, rfl⟩
                have hcv := HC.out w
                go_wp2
                go_ret2
                exact ⟨by rw [HE.out]; exact ret_si _ (by omega), (Below.refl _ _).alloc (Nat.le_refl _) _⟩
              | false =>
                have hvc := hrf rfl
                subst hvc
                clear hrt hrf
                go_enter Tryd.func18, Tryd.ntmps18
                go_wp2_with fail
                refine (HN.out _).mono ?_
                rintro e w' ⟨rfl, rfl⟩
                go_wp2_with fail
                refine (hR.out _).mono ?_
                rintro e w1 ⟨rfl, rfl⟩
                have hcv : (convert 46 9 (.slice (some ⟨w.heap.size, 0, none⟩) 1 1)).run Tryd.prog (w.alloc (.cells #[.int .i32 65533] 21)) = .ok (.string ⟨(encN 65533).toArray⟩) (w.alloc (.cells #[.int .i32 65533] 21)) := HC.out w
                go_wp2
                go_ret2
                exact ⟨by rw [HE.out]; exact ret_si _ (by omega), (Below.refl _ _).alloc (Nat.le_refl _) _⟩
            · rw [decide_eq_false (fun h => h59 h.2 : ¬ (W + 1 < s.size ∧ c1.toNat = 59)), if_pos (.inr rfl)] at e
              have HE := hid (rmarkV_eq (hm.trans e))
              have t1 : ((c1.toNat : Int) != 59) = true := bne_iff_ne.2 (by omega)
              clear e h59 hm hmd HC hR hrt hrf
              go_enter Tryd.func18, Tryd.ntmps18
              go_wp2_with fail
              refine (HN.out _).mono ?_
              rintro e w' ⟨rfl, rfl⟩
              go_wp2
              go_ret2
              exact ⟨HE.out.symm, Below.refl _ _⟩
          · rw [decide_eq_false (fun h => by omega : ¬ (W + 1 < s.size ∧ U8.B s.data.toList (W + 1) = 59)), if_pos (.inr rfl)] at e
            have HE := hid (rmarkV_eq (hm.trans e))
            have d2 : decide ((s.size : Int) ≤ (1 : Int) + (W : Int)) = true := decide_eq_true (by omega)
            clear e hm hmd HC hR hrt hrf
            go_enter Tryd.func18, Tryd.ntmps18
            go_wp2_with fail
            refine (HN.out _).mono ?_
            rintro e w' ⟨rfl, rfl⟩
            go_wp2
            go_ret2
            exact ⟨HE.out.symm, Below.refl _ _⟩
      · have t3 : ((x2.toNat : Int) == 88) = false := beq_eq_false_iff_ne.2 (by omega)
        rw [if_neg (fun h => h.elim m1 m2)] at hmo
        rw [hmo] at e
        clear hmo m1 m2
        by_cases hmd : 7 < D
        · rw [if_pos (.inl hmd)] at e
          have HE := hid (rmarkV_eq (hm.trans e))
          have d1 : decide ((7 : Int) < (D : Int)) = true := decide_eq_true (by omega)
          clear e hm hmd HC hR hrt hrf
          go_enter Tryd.func18, Tryd.ntmps18
          go_wp2_with fail
          refine (HN.out _).mono ?_
          rintro e w' ⟨rfl, rfl⟩
          go_wp2
          go_ret2
          exact ⟨HE.out.symm, Below.refl _ _⟩
        · have d1 : decide ((7 : Int) < (D : Int)) = false := decide_eq_false (by omega)
          by_cases hlt : 1 + W < s.size
          · have hg := get_of s (1 + W) hlt
            obtain ⟨c1, hcc⟩ : ∃ c, (s[1 + W]'hlt) = c := ⟨_, rfl⟩
            rw [hcc, Nat.add_comm 1 W] at hg
            rw [← hg] at e
            clear hg
            have d2 : decide ((s.size : Int) ≤ (1 : Int) + (W : Int)) = false := decide_eq_false (by omega)
            by_cases h59 : c1.toNat = 59
            · rw [decide_eq_true (⟨by omega, h59⟩ : W + 1 < s.size ∧ c1.toNat = 59), if_neg (by simp; omega)] at e
              have HE := hid (rmarkV_eq (hm.trans e))
              have t1 : ((c1.toNat : Int) != 59) = false := by rw [h59]; rfl
              clear e h59 hm hmd
              cases rb with
              | true =>
                have hvc := hrt rfl
                subst hvc
                clear hrt hrf
                go_enter Tryd.func18, Tryd.ntmps18
                go_wp2_with fail
                refine (HN.out _).mono ?_
                rintro e w' ⟨rfl, rfl⟩
                go_wp2_with fail
                refine (hR.out _).mono ?_
                rintro e w1 ⟨rfl, rfl⟩
                have hcv := HC.out w
                go_wp2
                go_ret2
                exact ⟨by rw [HE.out]; exact ret_si _ (by omega), (Below.refl _ _).alloc (Nat.le_refl _) _⟩
              | false =>
                have hvc := hrf rfl
                subst hvc
                clear hrt hrf
                go_enter Tryd.func18, Tryd.ntmps18
                go_wp2_with fail
                refine (HN.out _).mono ?_
                rintro e w' ⟨rfl, rfl⟩
                go_wp2_with fail
                refine (hR.out _).mono ?_
                rintro e w1 ⟨rfl, rfl⟩
                have hcv : (convert 46 9 (.slice (some ⟨w.heap.size, 0, none⟩) 1 1)).run Tryd.prog (w.alloc (.cells #[.int .i32 65533] 21)) = .ok (.string ⟨(encN 65533).toArray⟩) (w.alloc (.cells #[.int .i32 65533] 21)) := HC.out w
                go_wp2
                go_ret2
                exact ⟨by rw [HE.out]; exact ret_si _ (by omega), (Below.refl _ _).alloc (Nat.le_refl _) _⟩
            · rw [decide_eq_false (fun h => h59 h.2 : ¬ (W + 1 < s.size ∧ c1.toNat = 59)), if_pos (.inr rfl)] at e
              have HE := hid (rmarkV_eq (hm.trans e))
              have t1 : ((c1.toNat : Int) != 59) = true := bne_iff_ne.2 (by omega)
              clear e h59 hm hmd HC hR hrt hrf
              go_enter Tryd.func18, Tryd.ntmps18
              go_wp2_with fail
              refine (HN.out _).mono ?_
              rintro e w' ⟨rfl, rfl⟩
              go_wp2
              go_ret2
              exact ⟨HE.out.symm, Below.refl _ _⟩
          · rw [decide_eq_false (fun h => by omega : ¬ (W + 1 < s.size ∧ U8.B s.data.toList (W + 1) = 59)), if_pos (.inr rfl)] at e
            have HE := hid (rmarkV_eq (hm.trans e))
            have d2 : decide ((s.size : Int) ≤ (1 : Int) + (W : Int)) = true := decide_eq_true (by omega)
            clear e hm hmd HC hR hrt hrf
            go_enter Tryd.func18, Tryd.ntmps18
            go_wp2_with fail
            refine (HN.out _).mono ?_
            rintro e w' ⟨rfl, rfl⟩
            go_wp2
            go_ret2
            exact ⟨HE.out.symm, Below.refl _ _⟩
  · refine rmark_rows s w hs ?_ ?_
    · unfold numericE numericV
      rw [if_neg]
      · rfl
      · rintro ⟨a, b, c⟩
        refine h ?_
        cases hl : s.data.toList with
        | nil => rw [hl] at a; simp at a
        | cons x r =>
          rw [hl] at b c
          have hx : x = 38 := UInt8.toNat_inj.1 (show x.toNat = (38 : UInt8).toNat from b)
          exact ⟨r, by rw [hx], c⟩
    · intro a b
      apply Classical.byContradiction
      intro c
      refine h ?_
      cases hl : s.data.toList with
      | nil => exact absurd hl a
      | cons x r =>
        rw [hl] at b c
        have hx : x = 38 := UInt8.toNat_inj.1 (show x.toNat = (38 : UInt8).toNat from b)
        exact ⟨r, by rw [hx], c⟩
end Go.Proofs.YthfaogodiefefaaDoor
