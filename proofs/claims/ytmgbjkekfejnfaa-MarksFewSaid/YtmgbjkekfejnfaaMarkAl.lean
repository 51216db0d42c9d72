/- Walks over the reference of layer 12: whether two marks are alike. -/
import Derived.Test.YtmgbjkekfejnfaaMarkRb
namespace Go.Proofs.Ytmgbjkekfejnfaa
open Go.RowKit Go.Lib
set_option maxRecDepth 100000
set_option linter.unusedVariables false
theorem alike_eq (x y : Mk.M) : Mk.alike x y = (decide (x.name = y.name) && decide (x.atts.length = y.atts.length) && x.atts.all fun p => decide (p ∈ y.atts)) := rfl
theorem mem_take_step {l : List (List UInt8 × List UInt8)} {k : Nat} {x p : List UInt8 × List UInt8} (hx : l[k]? = some x) : decide (p ∈ l.take (k + 1)) = (decide (p ∈ l.take k) || decide (p = x)) := by
  rw [List.take_add_one, hx]
  simp
theorem all_take_step {α : Type} {l : List α} {k : Nat} {x : α} {f : α → Bool} (hx : l[k]? = some x) : (l.take (k + 1)).all f = ((l.take k).all f && f x) := by
  rw [List.take_add_one, hx]
  simp
set_option maxHeartbeats 16000000 in
/-- Of the same name, with as many attributes. -/
theorem ralike_loop (i1 i2 : Int) (m1 m2 : List UInt8) (aa1 aa2 : Option Addr) (n c1 c2 : Nat) (l1 l2 : List (List UInt8 × List UInt8)) (w : World) (h : IsA w aa1 n l1) (g : IsA w aa2 n l2) (hn : n ≤ 9223372036854775807) (he : m1 = m2) :
    Calls Try.prog 26 #[.agg #[.int .i64 i1, .string (bs m1), .slice aa1 n c1], .agg #[.int .i64 i2, .string (bs m2), .slice aa2 n c2]] w fun e w' => e = .returned (.bool (l1.all fun p => decide (p ∈ l2))) ∧ Below w.heap.size w w' := by
  subst he
  obtain ⟨R, hR⟩ : ∃ R, (l1.all fun p => decide (p ∈ l2)) = R := ⟨_, rfl⟩
  rw [hR]
  have HR := hid hR
  clear hR
  generalize bs m1 = X at *
  obtain ⟨W, hW⟩ : ∃ W, (w.alloc (.cells #[.int .i64 i1, .string X, .slice aa1 n c1] 25)).alloc (.cells #[.int .i64 i2, .string X, .slice aa2 n c2] 25) = W := ⟨_, rfl⟩
  have b1 : Below w.heap.size w (w.alloc (.cells #[.int .i64 i1, .string X, .slice aa1 n c1] 25)) := (Below.refl _ w).alloc (Nat.le_refl _) _
  have bW : Below w.heap.size w W := by rw [← hW]; exact b1.alloc b1.size _
  have B0 : BlkW W w.heap.size #[.int .i64 i1, .string X, .slice aa1 n c1] 25 := by rw [← hW]; exact (BlkW.new w _ _).alloc _
  have B1 : BlkW W (w.heap.size + 1) #[.int .i64 i2, .string X, .slice aa2 n c2] 25 := by
    rw [← hW]
    have := BlkW.new (w.alloc (.cells #[.int .i64 i1, .string X, .slice aa1 n c1] 25)) #[.int .i64 i2, .string X, .slice aa2 n c2] 25
    rwa [World.size_alloc] at this
  have HA1 := hid (h.below bW)
  have HA2 := hid (g.below bW)
  have HB := hid bW
  have hl1 := h.1
  have hl2 := g.1
  have q1 : W.cell? ⟨w.heap.size, 2, none⟩ = some (.slice aa1 n c1) := B0.cell 2
  have q2 : W.cell? ⟨w.heap.size + 1, 2, none⟩ = some (.slice aa2 n c2) := B1.cell 2
  have HC1 := hid fun V (hV : Below W.heap.size W V) => cell_up q1 hV
  have HC2 := hid fun V (hV : Below W.heap.size W V) => cell_up q2 hV
  have d1 : (X.toList != X.toList) = false := by simp
  have d2 : ((n : Int) != (n : Int)) = false := by simp
  have HW := hid hW
  clear b1 bW B0 B1 h g q1 q2 hW
  go_enter Try.func26, Try.ntmps26
  go_wp2
  rw [HW.out]
  obtain ⟨P, hP⟩ : ∃ P, w.heap.size = P := ⟨_, rfl⟩
  rw [hP] at HC1 HC2 ⊢
  have HP := hid hP
  clear hP d1 d2 HW
  have b0 : Below W.heap.size W W := Below.refl _ _
  go_loopg [5] n (fun g iv wr => ∃ k : Nat, k + g = n ∧ iv = .int .i64 k ∧ Hid ((l1.take k).all (fun p => decide (p ∈ l2)) = true) ∧ Below W.heap.size W wr)
  case atStart => exact ⟨0, by omega, rfl, hid rfl, b0⟩
  case round =>
    clear b0
    obtain ⟨k, hk, rfl, hI, hb⟩ := hrel
    have z1 := HC1.out wr hb
    have z2 := HC2.out wr hb
    by_cases hlt : k < n
    · have d1 : decide (k < n) = true := decide_eq_true hlt
      have hltI : (k : Int) < (n : Int) := by omega
      obtain ⟨p, hp⟩ : ∃ p, l1[k]? = some p := ⟨_, List.getElem?_eq_getElem (by omega)⟩
      go_wp2
      clear z1 z2
      go_loopg [6, 7] n (fun g sv iv wr => ∃ j : Nat, j + g = n ∧ iv = .int .i64 j ∧ sv = .bool (decide (p ∈ l2.take j)) ∧ Below W.heap.size W wr)
      case atStart => exact ⟨0, by omega, rfl, by simp, hb⟩
      case round =>
        clear hb
        obtain ⟨j, hj, rfl, rfl, hb⟩ := hrel
        have z1 := HC1.out wr hb
        have z2 := HC2.out wr hb
        by_cases hlt2 : j < n
        · have d3 : decide (j < n) = true := decide_eq_true hlt2
          have hltI2 : (j : Int) < (n : Int) := by omega
          obtain ⟨q, hq⟩ : ∃ q, l2[j]? = some q := ⟨_, List.getElem?_eq_getElem (by omega)⟩
          have HS := hid (mem_take_step (p := p) hq)
          obtain ⟨B, hBB⟩ : ∃ B, decide (p ∈ l2.take j) = B := ⟨_, rfl⟩
          rw [hBB] at HS ⊢
          clear hBB
          obtain ⟨_, x0 | ⟨b1, o1, rfl, hat⟩⟩ := HA1.out.below hb
          · omega
          obtain ⟨_, x0 | ⟨b2, o2, rfl, hau⟩⟩ := HA2.out.below hb
          · omega
          obtain ⟨e0, e1⟩ := hat k p hp
          obtain ⟨g0, g1⟩ := hau j q hq
          obtain ⟨p1, p2⟩ := p
          obtain ⟨r1, r2⟩ := q
          simp only at e0 e1 g0 g1
          cases B with
          | true =>
            have HN := hid (show decide ((p1, p2) ∈ l2.take (j + 1)) = true by rw [HS.out]; rfl)
            clear HS e0 e1 g0 g1 hat hau
            go_wp2
            go_region
            go_wp2
            go_roundg (n - (j + 1))
            case measure => omega
            case rel => exact ⟨j + 1, by omega, by go_num, by rw [HN.out], bel_drewN hb 1⟩
          | false =>
            by_cases s1 : p1 = r1
            · by_cases s2 : p2 = r2
              · have HN := hid (show decide ((p1, p2) ∈ l2.take (j + 1)) = true by rw [HS.out, s1, s2]; simp)
                rw [← s1] at g0
                rw [← s2] at g1
                clear HS hat hau hq s1 s2
                generalize bs p1 = Y1 at *
                generalize bs p2 = Y2 at *
                go_wp2
                go_region
                go_wp2
                go_roundg (n - (j + 1))
                case measure => omega
                case rel => exact ⟨j + 1, by omega, by go_num, by rw [HN.out], bel_drewN hb 1⟩
              · have HN := hid (show decide ((p1, p2) ∈ l2.take (j + 1)) = false by rw [HS.out]; simp [s2])
                have t0 : ¬ (bs p2).toList = (bs r2).toList := fun e => s2 (bs_inj e)
                rw [← s1] at g0
                clear HS hat hau hq s1 s2
                generalize bs p1 = Y1 at *
                generalize bs p2 = Y2 at *
                generalize bs r2 = Z2 at *
                go_wp2
                go_region
                go_wp2
                go_roundg (n - (j + 1))
                case measure => omega
                case rel => exact ⟨j + 1, by omega, by go_num, by rw [HN.out], bel_drewN hb 1⟩
            · have HN := hid (show decide ((p1, p2) ∈ l2.take (j + 1)) = false by rw [HS.out]; simp [s1])
              have t0 : ¬ (bs p1).toList = (bs r1).toList := fun e => s1 (bs_inj e)
              clear HS hat hau hq s1
              generalize bs p1 = Y1 at *
              generalize bs p2 = Y2 at *
              generalize bs r1 = Z1 at *
              generalize bs r2 = Z2 at *
              go_wp2
              go_region
              go_wp2
              go_roundg (n - (j + 1))
              case measure => omega
              case rel => exact ⟨j + 1, by omega, by go_num, by rw [HN.out], bel_drewN hb 1⟩
        · have d3 : decide (j < n) = false := decide_eq_false hlt2
          have hltI2 : ¬ (j : Int) < (n : Int) := by omega
          rw [List.take_of_length_le (show l2.length ≤ j by omega)]
          obtain ⟨B, hBB⟩ : ∃ B, decide (p ∈ l2) = B := ⟨_, rfl⟩
          rw [hBB]
          cases B with
          | true =>
            have HN := hid (show (l1.take (k + 1)).all (fun p => decide (p ∈ l2)) = true by rw [all_take_step hp, hI.out, hBB]; rfl)
            clear hBB hI
            go_wp2
            go_roundg (n - (k + 1))
            case measure => omega
            case rel => exact ⟨k + 1, by omega, by go_num, HN, hb⟩
          | false =>
            have HF := hid (show false = R by
              rw [← HR.out]
              symm
              rw [List.all_eq_false]
              exact ⟨p, List.mem_of_getElem? hp, by rw [hBB]; simp⟩)
            have HBF := hid (HB.out.trans (hb.mono HB.out.size))
            clear hBB hI
            go_wp2
            go_ret
            exact ⟨ret_bool' HF.out, HBF.out⟩
    · have d1 : decide (k < n) = false := decide_eq_false hlt
      have hltI : ¬ (k : Int) < (n : Int) := by omega
      have HT := hid (show true = R by rw [← HR.out, ← hI.out, List.take_of_length_le (by omega)])
      have HBF := hid (HB.out.trans (hb.mono HB.out.size))
      clear hI
      go_wp2
      go_ret
      exact ⟨ret_bool' HT.out, HBF.out⟩
set_option maxHeartbeats 4000000 in
theorem ralike_no (i1 i2 : Int) (m1 m2 : List UInt8) (aa1 aa2 : Option Addr) (n1 n2 c1 c2 : Nat) (w : World) (he : ¬ (m1 = m2 ∧ n1 = n2)) :
    Calls Try.prog 26 #[.agg #[.int .i64 i1, .string (bs m1), .slice aa1 n1 c1], .agg #[.int .i64 i2, .string (bs m2), .slice aa2 n2 c2]] w fun e w' => e = .returned (.bool false) ∧ Below w.heap.size w w' := by
  have b1 : Below w.heap.size w (w.alloc (.cells #[.int .i64 i1, .string (bs m1), .slice aa1 n1 c1] 25)) := (Below.refl _ w).alloc (Nat.le_refl _) _
  have HB := hid (b1.alloc b1.size (.cells #[.int .i64 i2, .string (bs m2), .slice aa2 n2 c2] 25))
  clear b1
  by_cases hm : m1 = m2
  · subst hm
    have hne : n1 ≠ n2 := fun e => he ⟨rfl, e⟩
    have d2 : ((n1 : Int) == (n2 : Int)) = false := by simp; omega
    have d3 : ((n1 : Int) != (n2 : Int)) = true := by simp; omega
    generalize bs m1 = X at *
    clear he
    go_enter Try.func26, Try.ntmps26
    go_wp2
    go_ret
    exact ⟨rfl, HB.out⟩
  · have d2 : ((bs m1).toList == (bs m2).toList) = false := beq_eq_false_iff_ne.2 fun e => hm (bs_inj e)
    have d3 : ((bs m1).toList != (bs m2).toList) = true := by simpa [bne] using d2
    clear he
    generalize bs m1 = X at *
    generalize bs m2 = Y at *
    go_enter Try.func26, Try.ntmps26
    go_wp2
    go_ret
    exact ⟨rfl, HB.out⟩
theorem ralike_any (r s : MR) (x y : Mk.M) (w : World) (h : FitM w r x) (g : FitM w s y) :
    Calls Try.prog 26 #[.agg #[.int .i64 r.id, .string (bs r.name), .slice r.aa r.an r.ac], .agg #[.int .i64 s.id, .string (bs s.name), .slice s.aa s.an s.ac]] w fun e w' => e = .returned (.bool (Mk.alike x y)) ∧ Below w.heap.size w w' := by
  obtain ⟨i1, m1, aa1, n1, c1⟩ := r
  obtain ⟨i2, m2, aa2, n2, c2⟩ := s
  have hm1 : m1 = x.name := h.name
  have hm2 : m2 = y.name := g.name
  have hl1 : x.atts.length = n1 := h.atts.1
  have hl2 : y.atts.length = n2 := g.atts.1
  rw [alike_eq]
  by_cases he : m1 = m2 ∧ n1 = n2
  · obtain ⟨e1, rfl⟩ := he
    rw [decide_eq_true (show x.name = y.name by rw [← hm1, ← hm2, e1]), decide_eq_true (show x.atts.length = y.atts.length by omega), Bool.true_and, Bool.true_and]
    exact ralike_loop i1 i2 m1 m2 aa1 aa2 n1 c1 c2 x.atts y.atts w h.atts g.atts h.few e1
  · have : (decide (x.name = y.name) && decide (x.atts.length = y.atts.length)) = false := by
      cases hc : (decide (x.name = y.name) && decide (x.atts.length = y.atts.length)) with
      | false => rfl
      | true =>
        simp at hc
        exact absurd ⟨by rw [hm1, hm2, hc.1], by omega⟩ he
    rw [this, Bool.false_and]
    exact ralike_no i1 i2 m1 m2 aa1 aa2 n1 n2 c1 c2 w he
end Go.Proofs.Ytmgbjkekfejnfaa
