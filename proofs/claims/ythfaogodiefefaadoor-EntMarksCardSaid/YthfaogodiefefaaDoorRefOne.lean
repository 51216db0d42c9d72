/- Walks over the reference of layer 3: the reference that a text begins with. -/
import Derived.Test.YthfaogodiefefaaDoorRefNum
import Derived.Test.YthfaogodiefefaaDoorRefNamed
import Derived.Test.YthfaogodiefefaaDoorMeanText
namespace Go.Proofs.YthfaogodiefefaaDoor
open Go.RowKit Go.Lib Ent
set_option maxRecDepth 100000
set_option linter.unusedVariables false

theorem rsemi_sign (l : List UInt8) (j : Nat) : semiW (l.drop j) = if signAt l j = true then 1 else 0 := by
  unfold semiW signAt
  rw [U8.B_drop, List.length_drop, Nat.add_zero]
  simp only [decide_eq_true_eq]
  congr 1
  exact propext ⟨fun ⟨a, b⟩ => ⟨by omega, b⟩, fun ⟨a, b⟩ => ⟨by omega, b⟩⟩
theorem rnum_char (n : Int) : ∃ c : Nat, numZ n = c ∧ OkC c ∧ (numZ n).toNat = c := by
  have h := numZ_ok n
  have h2 := numZ_okC n
  exact ⟨(numZ n).toNat, by omega, h2.2, rfl⟩
theorem numeric_of {l q : List UInt8} (h : l = 38 :: q) (hd : digs q ≠ []) : numericE l = .returned (.tuple #[.int .i64 (1 + numW q : Nat), .int .i64 (digs q).length, .int .i64 (min (numV q : Int) 100000000)]) := by
  unfold numericE numericV
  rw [h, if_pos ⟨by simp, rfl, hd⟩]
  rfl
theorem numeric_not {l q : List UInt8} (h : l = 38 :: q) (hd : digs q = []) : numericE l = .returned (.tuple #[.int .i64 0, .int .i64 0, .int .i64 0]) := by
  unfold numericE numericV
  rw [h, if_neg (fun x => x.2.2 hd)]
  rfl
theorem wf_i64 {n : Int} (h1 : -9223372036854775808 ≤ n) (h2 : n ≤ 9223372036854775807) : (Lit.int .i64 n).wf = true := by
  show (decide (IntKind.i64.min ≤ n) && decide (n ≤ IntKind.i64.max)) = true
  rw [show IntKind.i64.min = -9223372036854775808 from rfl, show IntKind.i64.max = 9223372036854775807 from rfl, decide_eq_true h1, decide_eq_true h2]
  rfl
theorem B_tail {l q : List UInt8} (h : l = 38 :: q) (j : Nat) : U8.B l (j + 1) = U8.B q j := by rw [h]; rfl
theorem ret_si (x : ByteArray) {a b : Int} (h : a = b) : Ending.returned (.tuple #[.string x, .int .i64 a]) = .returned (.tuple #[.string x, .int .i64 b]) := by rw [h]
def oneE (attr : Bool) (q : List UInt8) : Ending := .returned (.tuple #[.string ⟨(refer attr q).1.toArray⟩, .int .i64 ((refer attr q).2 + 1 : Nat)])
theorem oneE_eq {attr : Bool} {q i : List UInt8} {n : Nat} (h : refer attr q = (i, n)) : oneE attr q = .returned (.tuple #[.string ⟨i.toArray⟩, .int .i64 (n + 1 : Nat)]) := by unfold oneE; rw [h]

set_option maxHeartbeats 2000000 in
theorem rone_any (s : ByteArray) (attr : Bool) (q : List UInt8) (w : World) (hs : s.size ≤ 1000000) (hq : s.data.toList = 38 :: q) :
    Calls Tryd.prog 35 #[.string s, .bool attr] w fun e w' => e = oneE attr q ∧ Below w.heap.size w w' := by
  have HN := fun w => rnumeric_any s w hs
  have hsl := size_list s
  have hql : q.length + 1 = s.size := by rw [← hsl, hq]; simp
  by_cases hd : digs q = []
  · rw [numeric_not hq hd] at HN
    have e : refer attr q = if (named q).2 = 0 ∨ refuses attr q = true then ([38], 0) else named q := by unfold refer; rw [if_neg (fun h => h hd)]
    have HM := fun w => rnamed_any (s.extract 1 s.size) w (by rw [size_eq, extract_drop, List.length_drop]; omega)
    rw [extract_drop, hq, List.drop_succ_cons, List.drop_zero] at HM
    have hnc := named_cases q
    obtain ⟨i, n, hin⟩ : ∃ i n, named q = (i, n) := ⟨_, _, rfl⟩
    have er : refuses attr q = (attr && decide (U8.B q (n - 1) ≠ 59) && goesOn (q.drop n)) := by unfold refuses; rw [hin]
    rw [hin] at HM e hnc
    simp only at HM e hnc
    have hn8 : n ≤ 8 := hnc.2.1
    have hnl : n + 1 ≤ s.size := by omega
    have h1s : 1 ≤ s.size := by omega
    have HN := hid HN
    have HM := hid HM
    clear hin hd hnc
    by_cases hn0 : n = 0
    · rw [if_pos (.inl hn0)] at e
      have HE := hid (oneE_eq e)
      subst hn0
      clear e er hq hql
      go_enter Tryd.func35, Tryd.ntmps35
      go_wp2_with fail
      refine (HN.out _).mono ?_
      rintro e w' ⟨rfl, rfl⟩
      go_wp2_with fail
      refine (HM.out _).mono ?_
      rintro e w2 ⟨rfl, b2⟩
      have b2 := hid b2
      go_wp2
      go_ret2
      exact ⟨HE.out.symm, b2.out⟩
    · have t0 : ((n : Int) == 0) = false := beq_eq_false_iff_ne.2 (by omega)
      have hkl : n < s.size := by omega
      have hg := get_of s n hkl
      obtain ⟨c, hc⟩ : ∃ c, (s[n]'hkl) = c := ⟨_, rfl⟩
      obtain ⟨k, hk⟩ : ∃ k, n = k + 1 := ⟨n - 1, by omega⟩
      rw [hc, show U8.B s.data.toList n = U8.B q (n - 1) by rw [hk]; exact B_tail hq k] at hg
      rw [← hg] at er
      clear hg hk
      cases attr with
      | false =>
        rw [if_neg (by rw [er]; simp [hn0])] at e
        have HE := hid (oneE_eq e)
        clear e er hn0 hq hql
        go_enter Tryd.func35, Tryd.ntmps35
        go_wp2_with fail
        refine (HN.out _).mono ?_
        rintro e w' ⟨rfl, rfl⟩
        go_wp2_with fail
        refine (HM.out _).mono ?_
        rintro e w2 ⟨rfl, b2⟩
        have b2 := hid b2
        go_wp2
        go_ret2
        exact ⟨by rw [HE.out]; exact ret_si _ (by omega), b2.out⟩
      | true =>
        by_cases h59 : c.toNat = 59
        · rw [if_neg (by rw [er]; simp [h59, hn0])] at e
          have HE := hid (oneE_eq e)
          have t1 : ((c.toNat : Int) != 59) = false := by rw [h59]; rfl
          clear e er h59 hn0 hq hql
          go_enter Tryd.func35, Tryd.ntmps35
          go_wp2_with fail
          refine (HN.out _).mono ?_
          rintro e w' ⟨rfl, rfl⟩
          go_wp2_with fail
          refine (HM.out _).mono ?_
          rintro e w2 ⟨rfl, b2⟩
          have b2 := hid b2
          go_wp2
          go_ret2
          exact ⟨by rw [HE.out]; exact ret_si _ (by omega), b2.out⟩
        · have t1 : ((c.toNat : Int) != 59) = true := bne_iff_ne.2 (by omega)
          have er2 : refuses true q = goesOn (q.drop n) := by rw [er]; simp [h59]
          rw [er2] at e
          clear er er2 h59
          by_cases hlt : n + 1 < s.size
          · have d1 : decide ((n : Int) + 1 < (s.size : Int)) = true := decide_eq_true (by omega)
            have hg2 := get_of s (n + 1) hlt
            obtain ⟨c2, hc2⟩ : ∃ c, (s[n + 1]'hlt) = c := ⟨_, rfl⟩
            rw [hc2, B_tail hq n] at hg2
            have hlt2 := c2.toNat_lt
            have eg : goesOn (q.drop n) = decide (c2.toNat = 61 ∨ letterN c2.toNat = true ∨ digitN c2.toNat = true) := by
              unfold goesOn
              rw [U8.B_drop, Nat.add_zero, ← hg2, List.length_drop]
              simp [show 0 < q.length - n by omega]
            rw [eg] at e
            have HL := hid (fun w => rletter_any c2.toNat hlt2 w)
            have HD := hid (fun w => rdigit_any c2.toNat hlt2 w)
            clear eg hg2
            by_cases h61 : c2.toNat = 61
            · have t2 : ((c2.toNat : Int) == 61) = true := by rw [h61]; rfl
              rw [if_pos (.inr (decide_eq_true (.inl h61)))] at e
              have HE := hid (oneE_eq e)
              clear e h61 hn0 HL HD hq hql
              go_enter Tryd.func35, Tryd.ntmps35
              go_wp2_with fail
              refine (HN.out _).mono ?_
              rintro e w' ⟨rfl, rfl⟩
              go_wp2_with fail
              refine (HM.out _).mono ?_
              rintro e w2 ⟨rfl, b2⟩
              have b2 := hid b2
              go_wp2
              go_ret2
              exact ⟨HE.out.symm, b2.out⟩
            · have t2 : ((c2.toNat : Int) == 61) = false := beq_eq_false_iff_ne.2 (by omega)
              obtain ⟨b1, hb1⟩ : ∃ b, letterN c2.toNat = b := ⟨_, rfl⟩
              obtain ⟨b2, hb2⟩ : ∃ b, digitN c2.toNat = b := ⟨_, rfl⟩
              rw [hb1] at HL e
              rw [hb2] at HD e
              cases b1 with
              | true =>
                rw [if_pos (.inr (decide_eq_true (.inr (.inl rfl))))] at e
                have HE := hid (oneE_eq e)
                clear e h61 hn0 HD hb1 hb2 hq hql
                go_enter Tryd.func35, Tryd.ntmps35
                go_wp2_with fail
                refine (HN.out _).mono ?_
                rintro e w' ⟨rfl, rfl⟩
                go_wp2_with fail
                refine (HM.out _).mono ?_
                rintro e w2 ⟨rfl, b2⟩
                have b2 := hid b2
                go_wp2_with (go_at_call 48; refine (HL.out _).mono ?_; rintro e w' ⟨rfl, rfl⟩)
                go_ret2
                exact ⟨HE.out.symm, b2.out⟩
              | false =>
                cases b2 with
                | true =>
                  rw [if_pos (.inr (decide_eq_true (.inr (.inr rfl))))] at e
                  have HE := hid (oneE_eq e)
                  clear e h61 hn0 hb1 hb2 hq hql
                  go_enter Tryd.func35, Tryd.ntmps35
                  go_wp2_with fail
                  refine (HN.out _).mono ?_
                  rintro e w' ⟨rfl, rfl⟩
                  go_wp2_with fail
                  refine (HM.out _).mono ?_
                  rintro e w2 ⟨rfl, b2⟩
                  have b2 := hid b2
                  go_wp2_with (first | (go_at_call 48; refine (HL.out _).mono ?_; rintro e w' ⟨rfl, rfl⟩) | (go_at_call 49; refine (HD.out _).mono ?_; rintro e w' ⟨rfl, rfl⟩))
                  go_ret2
                  exact ⟨HE.out.symm, b2.out⟩
                | false =>
                  rw [if_neg (by simp [h61, hn0])] at e
                  have HE := hid (oneE_eq e)
                  clear e h61 hn0 hb1 hb2 hq hql
                  go_enter Tryd.func35, Tryd.ntmps35
                  go_wp2_with fail
                  refine (HN.out _).mono ?_
                  rintro e w' ⟨rfl, rfl⟩
                  go_wp2_with fail
                  refine (HM.out _).mono ?_
                  rintro e w2 ⟨rfl, b2⟩
                  have b2 := hid b2
                  go_wp2_with (first | (go_at_call 48; refine (HL.out _).mono ?_; rintro e w' ⟨rfl, rfl⟩) | (go_at_call 49; refine (HD.out _).mono ?_; rintro e w' ⟨rfl, rfl⟩))
                  go_ret2
                  exact ⟨by rw [HE.out]; exact ret_si _ (by omega), b2.out⟩
          · have d1 : decide ((n : Int) + 1 < (s.size : Int)) = false := decide_eq_false (by omega)
            have eg : goesOn (q.drop n) = false := by
              unfold goesOn
              exact decide_eq_false (fun h => by have := h.1; rw [List.length_drop] at this; omega)
            rw [eg, if_neg (by simp [hn0])] at e
            have HE := hid (oneE_eq e)
            clear e hn0 eg hq hql
            go_enter Tryd.func35, Tryd.ntmps35
            go_wp2_with fail
            refine (HN.out _).mono ?_
            rintro e w' ⟨rfl, rfl⟩
            go_wp2_with fail
            refine (HM.out _).mono ?_
            rintro e w2 ⟨rfl, b2⟩
            have b2 := hid b2
            go_wp2
            go_ret2
            exact ⟨by rw [HE.out]; exact ret_si _ (by omega), b2.out⟩
  · rw [numeric_of hq hd] at HN
    have e : refer attr q = (encN (numZ (numV q)).toNat, numW q + semiW (q.drop (numW q))) := by unfold refer; rw [if_pos hd]
    have h1 := digs_le hd
    obtain ⟨c, hc1, hc2, hc3⟩ := rnum_char (numV q)
    rw [hc3, rsemi_sign] at e
    have HM : ∀ w, Calls Tryd.prog 14 #[.int .i64 (min (numV q : Int) 100000000)] w fun e w' => e = .returned (.int .i32 c) ∧ Below w.heap.size w w' := fun w => by
      have := rnumber_any (min (numV q : Int) 100000000) w (wf_i64 (by omega) (by omega))
      rw [numZ_min _ _ (by omega), hc1] at this
      exact this
    obtain ⟨V, hV⟩ : ∃ V, min (numV q : Int) 100000000 = V := ⟨_, rfl⟩
    obtain ⟨W, hW⟩ : ∃ W, numW q = W := ⟨_, rfl⟩
    obtain ⟨D, hD⟩ : ∃ D, (digs q).length = D := ⟨_, rfl⟩
    rw [hV] at HN HM
    rw [hW] at HN h1 e
    rw [hD] at HN
    have es : signAt q W = decide (W + 1 < s.size ∧ U8.B s.data.toList (W + 1) = 59) := by
      unfold signAt
      rw [B_tail hq W]
      exact decide_eq_decide.2 ⟨fun ⟨a, b⟩ => ⟨by omega, b⟩, fun ⟨a, b⟩ => ⟨by omega, b⟩⟩
    rw [es] at e
    have hWs : W + 1 ≤ s.size := by omega
    rw [show ((1 + W : Nat) : Int) = 1 + (W : Int) by omega] at HN
    have HN := hid HN
    have HM := hid HM
    have HC := hid (fun w => conv_one w c hc2)
    have tp : decide ((0 : Int) < 1 + (W : Int)) = true := decide_eq_true (by omega)
    clear hV hW hD h1 hd hc1 hc3 es hq hql
    by_cases hlt : 1 + W < s.size
    · have hg := get_of s (1 + W) hlt
      obtain ⟨c1, hcc⟩ : ∃ c, (s[1 + W]'hlt) = c := ⟨_, rfl⟩
      rw [hcc, Nat.add_comm 1 W] at hg
      rw [← hg] at e
      clear hg
      have d1 : decide ((1 : Int) + (W : Int) < (s.size : Int)) = true := decide_eq_true (by omega)
      by_cases h59 : c1.toNat = 59
      · rw [decide_eq_true (⟨by omega, h59⟩ : W + 1 < s.size ∧ c1.toNat = 59), if_pos rfl] at e
        have HE := hid (oneE_eq e)
        have t1 : ((c1.toNat : Int) == 59) = true := by rw [h59]; rfl
        clear e h59
        go_enter Tryd.func35, Tryd.ntmps35
        go_wp2_with fail
        refine (HN.out _).mono ?_
        rintro e w' ⟨rfl, rfl⟩
        go_wp2_with fail
        refine (HM.out _).mono ?_
        rintro e w1 ⟨rfl, b1⟩
        have b2 := hid (b1.alloc b1.size (.cells #[.int .i32 c] 21))
        have hcv := HC.out w1
        clear b1
        go_wp2
        go_ret2
        exact ⟨by rw [HE.out]; exact ret_si _ (by omega), b2.out⟩
      · rw [decide_eq_false (fun h => h59 h.2 : ¬ (W + 1 < s.size ∧ c1.toNat = 59)), if_neg (by simp)] at e
        have HE := hid (oneE_eq e)
        have t1 : ((c1.toNat : Int) == 59) = false := beq_eq_false_iff_ne.2 (by omega)
        clear e h59
        go_enter Tryd.func35, Tryd.ntmps35
        go_wp2_with fail
        refine (HN.out _).mono ?_
        rintro e w' ⟨rfl, rfl⟩
        go_wp2_with fail
        refine (HM.out _).mono ?_
        rintro e w1 ⟨rfl, b1⟩
        have b2 := hid (b1.alloc b1.size (.cells #[.int .i32 c] 21))
        have hcv := HC.out w1
        clear b1
        go_wp2
        go_ret2
        exact ⟨by rw [HE.out]; exact ret_si _ (by omega), b2.out⟩
    · rw [decide_eq_false (fun h => by omega : ¬ (W + 1 < s.size ∧ U8.B s.data.toList (W + 1) = 59)), if_neg (by simp)] at e
      have HE := hid (oneE_eq e)
      have d1 : decide ((1 : Int) + (W : Int) < (s.size : Int)) = false := decide_eq_false (by omega)
      clear e
      go_enter Tryd.func35, Tryd.ntmps35
      go_wp2_with fail
      refine (HN.out _).mono ?_
      rintro e w' ⟨rfl, rfl⟩
      go_wp2_with fail
      refine (HM.out _).mono ?_
      rintro e w1 ⟨rfl, b1⟩
      have b2 := hid (b1.alloc b1.size (.cells #[.int .i32 c] 21))
      have hcv := HC.out w1
      clear b1
      go_wp2
      go_ret2
      exact ⟨by rw [HE.out]; exact ret_si _ (by omega), b2.out⟩
end Go.Proofs.YthfaogodiefefaaDoor
