/- Walks over the program's package marks: whether two marks are alike. -/
import Derived.Test.YtmgbjkekfejnfaaMarkIs
import Derived.Test.YtmgbjkekfejnfaaMarkAl
namespace Go.Proofs.Ytmgbjkekfejnfaa
open Go.RowKit Go.Lib
set_option maxRecDepth 100000
set_option linter.unusedVariables false
set_option maxHeartbeats 16000000 in
/-- Of the same name, with as many attributes. -/
theorem palike_loop (i1 i2 : Int) (m1 m2 : List UInt8) (aa1 aa2 : Option Addr) (n c1 c2 : Nat) (l1 l2 : List (List UInt8 × List UInt8)) (w : World) (h : IsA w aa1 n l1) (g : IsA w aa2 n l2) (hn : n ≤ 9223372036854775807) (hc2 : n ≤ c2) (hc3 : c2 ≤ 9223372036854775807) (he : m1 = m2) :
    Calls Try.prog 33 #[.agg #[.int .i64 i1, .string (bs m1), .slice aa1 n c1], .agg #[.int .i64 i2, .string (bs m2), .slice aa2 n c2]] w fun e w' => e = .returned (.bool (l1.all fun p => decide (p ∈ l2))) ∧ Below w.heap.size w w' := by
  subst he
  obtain ⟨R, hR⟩ : ∃ R, (l1.all fun p => decide (p ∈ l2)) = R := ⟨_, rfl⟩
  rw [hR]
  have HR := hid hR
  clear hR
  generalize bs m1 = X at *
  obtain ⟨W, hW⟩ : ∃ W, (w.alloc (.cells #[.int .i64 i1, .string X, .slice aa1 n c1] 25)).alloc (.cells #[.int .i64 i2, .string X, .slice aa2 n c2] 25) = W := ⟨_, rfl⟩
  have b1 : Below w.heap.size w (w.alloc (.cells #[.int .i64 i1, .string X, .slice aa1 n c1] 25)) := (Below.refl _ w).alloc (Nat.le_refl _) _
  have bW : Below w.heap.size w W := by rw [← hW]; exact b1.alloc b1.size _
  have B0 : BlkW W w.heap.size #[.int .i64 i1, .string X, .slice aa1 n c1] 25 := by rw [← hW]; exact (BlkW.new w _ _).alloc _
  have B1 : BlkW W (w.heap.size + 1) #[.int .i64 i2, .string X, .slice aa2 n c2] 25 := by
    rw [← hW]
    have := BlkW.new (w.alloc (.cells #[.int .i64 i1, .string X, .slice aa1 n c1] 25)) #[.int .i64 i2, .string X, .slice aa2 n c2] 25
    rwa [World.size_alloc] at this
  have HA1 := hid (h.below bW)
  have HA2 := hid (g.below bW)
  have HB := hid bW
  have hl1 := h.1
  have hl2 := g.1
  have q1 : W.cell? ⟨w.heap.size, 2, none⟩ = some (.slice aa1 n c1) := B0.cell 2
  have q2 : W.cell? ⟨w.heap.size + 1, 2, none⟩ = some (.slice aa2 n c2) := B1.cell 2
  have HC2 := hid fun V (hV : Below W.heap.size W V) => cell_up q2 hV
  have HCT := hid fun (V : World) (hV : Below W.heap.size W V) (p1 p2 : List UInt8) => containsT_any aa2 n c2 l2 p1 p2 V ((g.below bW).below hV) hn hc2 hc3
  have d1 : (X.toList != X.toList) = false := by simp
  have d2 : ((n : Int) != (n : Int)) = false := by simp
  have HW := hid hW
  clear b1 bW B0 B1 h g q1 q2 hW
  go_enter Try.func33, Try.ntmps33
  go_wp2
  rw [HW.out]
  obtain ⟨P, hP⟩ : ∃ P, w.heap.size = P := ⟨_, rfl⟩
  rw [hP] at HC2 ⊢
  have HP := hid hP
  clear hP d1 d2 HW
  have b0 : Below W.heap.size W W := Below.refl _ _
  go_loopg [24] n (fun g iv wr => ∃ k : Nat, k + g = n ∧ iv = .int .i64 k ∧ Hid ((l1.take k).all (fun p => decide (p ∈ l2)) = true) ∧ Below W.heap.size W wr)
  case atStart => exact ⟨0, by omega, rfl, hid rfl, b0⟩
  case round =>
    clear b0
    obtain ⟨k, hk, rfl, hI, hb⟩ := hrel
    by_cases hlt : k < n
    · have d1 : decide (k < n) = true := decide_eq_true hlt
      have hltI : (k : Int) < (n : Int) := by omega
      obtain ⟨p, hp⟩ : ∃ p, l1[k]? = some p := ⟨_, List.getElem?_eq_getElem (by omega)⟩
      obtain ⟨q, hq⟩ : ∃ q, l2[k]? = some q := ⟨_, List.getElem?_eq_getElem (by omega)⟩
      have hA1 := HA1.out.below hb
      have hA2 := HA2
      obtain ⟨_, x0 | ⟨b1, o1, rfl, hat⟩⟩ := hA1
      · omega
      obtain ⟨e0, e1⟩ := hat k p hp
      have HPM := hid hp
      have HQM := hid (List.mem_of_getElem? hq)
      obtain ⟨p1, p2⟩ := p
      obtain ⟨r1, r2⟩ := q
      simp only at e0 e1
      have HCC := hid fun V (hV : Below W.heap.size W V) => HCT.out V hV p1 p2
      have HG := hid fun V (hV : Below W.heap.size W V) => (show ∃ b2 o2, aa2 = some ⟨b2, o2, none⟩ ∧ V.cell? ⟨b2, o2 + k * 2, none⟩ = some (.string (bs r1)) ∧ V.cell? ⟨b2, o2 + k * 2 + 1, none⟩ = some (.string (bs r2)) by
        obtain ⟨_, x0 | ⟨b2, o2, e, hau⟩⟩ := HA2.out.below hV
        · omega
        obtain ⟨g0, g1⟩ := hau k (r1, r2) hq
        exact ⟨b2, o2, e, g0, g1⟩)
      have d4 : (decide ((p1, p2) ∈ l2) : Bool) = l2.contains (p1, p2) := (contains_dec _ _).symm
      have HD4 := hid d4
      clear hat hp hq hA2 d4
      generalize hY1 : bs p1 = Y1 at *
      generalize hY2 : bs p2 = Y2 at *
      have HY1 := hid hY1
      have HY2 := hid hY2
      clear hY1 hY2
      have BA := hb.alloc hb.size (.cells #[.string Y1, .string Y2] 38)
      have KA := BlkW.new wr #[.string Y1, .string Y2] 38
      go_wp2
      obtain ⟨W5, hW5⟩ : ∃ W5, wr.alloc (.cells #[.string Y1, .string Y2] 38) = W5 := ⟨_, rfl⟩
      rw [hW5] at BA KA ⊢
      obtain ⟨H, hH⟩ : ∃ H, wr.heap.size = H := ⟨_, rfl⟩
      rw [hH] at KA ⊢
      have t0 := KA.cell 0
      have t1 := KA.cell 1
      simp only [List.getElem?_toArray, List.getElem?_cons_zero, List.getElem?_cons_succ] at t0 t1
      have u2 := HC2.out W5 BA
      obtain ⟨b2, o2, rfl, g0, g1⟩ := HG.out W5 BA
      clear hW5 hH KA e0 e1
      by_cases hpq : (p1, p2) = (r1, r2)
      · obtain ⟨rfl, rfl⟩ : p1 = r1 ∧ p2 = r2 := by simpa using hpq
        rw [HY1.out] at g0
        rw [HY2.out] at g1
        have HN := hid (show (l1.take (k + 1)).all (fun p => decide (p ∈ l2)) = true by
          rw [all_take_step HPM.out, hI.out, decide_eq_true HQM.out]; rfl)
        clear hI hpq HCC
        go_wp2
        go_quiet (fail)
        go_wp2
        go_roundg (n - (k + 1))
        case measure => omega
        case rel => exact ⟨k + 1, by omega, by go_num, HN, bel_drewN BA _⟩
      · obtain ⟨D, hD⟩ : ∃ D, l2.contains (p1, p2) = D := ⟨_, rfl⟩
        rw [hD] at HCC
        have HDD := hid hD
        clear hD
        by_cases s1 : p1 = r1
        · have t9 : ¬ Y2.toList = (bs r2).toList := fun e => hpq (by rw [s1, bs_inj (show (bs p2).toList = (bs r2).toList by rw [HY2.out]; exact e)])
          rw [← s1, HY1.out] at g0
          clear s1 hpq
          generalize bs r2 = Z2 at *
          go_wp2
          first
            | (go_region_with (first | (go_at_call 37; (with_reducible refine (HCC.out _ BA.drew).mono ?_); rintro e wk ⟨rfl, bk⟩; have BK := hid (BA.drew.trans (bk.mono BA.drew.size)); clear bk)))
            | fail
          all_goals
            clear t0 t1 u2 g0 g1 HCC
            cases D with
            | true =>
              have HN := hid (show (l1.take (k + 1)).all (fun p => decide (p ∈ l2)) = true by
                rw [all_take_step HPM.out, hI.out, HD4.out, HDD.out]; rfl)
              clear hI
              go_wp2
              go_roundg (n - (k + 1))
              case measure => omega
              case rel => exact ⟨k + 1, by omega, by go_num, HN, BK.out⟩
            | false =>
              have HF := hid (show false = R by
                rw [← HR.out]
                symm
                rw [List.all_eq_false]
                exact ⟨(p1, p2), List.mem_of_getElem? HPM.out, by rw [HD4.out, HDD.out]; simp⟩)
              have HBF := hid (HB.out.trans (BK.out.mono HB.out.size))
              clear hI
              go_wp2
              go_ret
              exact ⟨ret_bool' HF.out, HBF.out⟩
        · have t9 : ¬ Y1.toList = (bs r1).toList := fun e => s1 (bs_inj (show (bs p1).toList = (bs r1).toList by rw [HY1.out]; exact e))
          clear s1 hpq
          generalize bs r1 = Z1 at *
          generalize bs r2 = Z2 at *
          go_wp2
          first
            | (go_region_with (first | (go_at_call 37; (with_reducible refine (HCC.out _ BA.drew).mono ?_); rintro e wk ⟨rfl, bk⟩; have BK := hid (BA.drew.trans (bk.mono BA.drew.size)); clear bk)))
            | fail
          all_goals
            clear t0 t1 u2 g0 g1 HCC
            cases D with
            | true =>
              have HN := hid (show (l1.take (k + 1)).all (fun p => decide (p ∈ l2)) = true by
                rw [all_take_step HPM.out, hI.out, HD4.out, HDD.out]; rfl)
              clear hI
              go_wp2
              go_roundg (n - (k + 1))
              case measure => omega
              case rel => exact ⟨k + 1, by omega, by go_num, HN, BK.out⟩
            | false =>
              have HF := hid (show false = R by
                rw [← HR.out]
                symm
                rw [List.all_eq_false]
                exact ⟨(p1, p2), List.mem_of_getElem? HPM.out, by rw [HD4.out, HDD.out]; simp⟩)
              have HBF := hid (HB.out.trans (BK.out.mono HB.out.size))
              clear hI
              go_wp2
              go_ret
              exact ⟨ret_bool' HF.out, HBF.out⟩
    · have d1 : decide (k < n) = false := decide_eq_false hlt
      have hltI : ¬ (k : Int) < (n : Int) := by omega
      have HT := hid (show true = R by rw [← HR.out, ← hI.out, List.take_of_length_le (by omega)])
      have HBF := hid (HB.out.trans (hb.mono HB.out.size))
      clear hI
      go_wp2
      go_ret
      exact ⟨ret_bool' HT.out, HBF.out⟩
end Go.Proofs.Ytmgbjkekfejnfaa
