/- Walks over the program's package marks: whether two marks are alike, whatever they are. -/
import Derived.Test.YtmgbjkekfejnfaaMarkLi
namespace Go.Proofs.Ytmgbjkekfejnfaa
open Go.RowKit Go.Lib
set_option maxRecDepth 100000
set_option linter.unusedVariables false
set_option maxHeartbeats 4000000 in
theorem palike_no (i1 i2 : Int) (m1 m2 : List UInt8) (aa1 aa2 : Option Addr) (n1 n2 c1 c2 : Nat) (w : World) (he : ¬ (m1 = m2 ∧ n1 = n2)) :
    Calls Try.prog 33 #[.agg #[.int .i64 i1, .string (bs m1), .slice aa1 n1 c1], .agg #[.int .i64 i2, .string (bs m2), .slice aa2 n2 c2]] w fun e w' => e = .returned (.bool false) ∧ Below w.heap.size w w' := by
  have b1 : Below w.heap.size w (w.alloc (.cells #[.int .i64 i1, .string (bs m1), .slice aa1 n1 c1] 25)) := (Below.refl _ w).alloc (Nat.le_refl _) _
  have HB := hid (b1.alloc b1.size (.cells #[.int .i64 i2, .string (bs m2), .slice aa2 n2 c2] 25))
  clear b1
  by_cases hm : m1 = m2
  · subst hm
    have hne : n1 ≠ n2 := fun e => he ⟨rfl, e⟩
    have d2 : ((n1 : Int) == (n2 : Int)) = false := by simp; omega
    have d3 : ((n1 : Int) != (n2 : Int)) = true := by simp; omega
    generalize bs m1 = X at *
    clear he
    go_enter Try.func33, Try.ntmps33
    go_wp2
    go_ret
    exact ⟨rfl, HB.out⟩
  · have d2 : ((bs m1).toList == (bs m2).toList) = false := beq_eq_false_iff_ne.2 fun e => hm (bs_inj e)
    have d3 : ((bs m1).toList != (bs m2).toList) = true := by simpa [bne] using d2
    clear he
    generalize bs m1 = X at *
    generalize bs m2 = Y at *
    go_enter Try.func33, Try.ntmps33
    go_wp2
    go_ret
    exact ⟨rfl, HB.out⟩
theorem palike_any (r s : MR) (x y : Mk.M) (w : World) (h : FitM w r x) (g : FitM w s y) :
    Calls Try.prog 33 #[.agg #[.int .i64 r.id, .string (bs r.name), .slice r.aa r.an r.ac], .agg #[.int .i64 s.id, .string (bs s.name), .slice s.aa s.an s.ac]] w fun e w' => e = .returned (.bool (Mk.alike x y)) ∧ Below w.heap.size w w' := by
  obtain ⟨i1, m1, aa1, n1, c1⟩ := r
  obtain ⟨i2, m2, aa2, n2, c2⟩ := s
  have hm1 : m1 = x.name := h.name
  have hm2 : m2 = y.name := g.name
  have hl1 : x.atts.length = n1 := h.atts.1
  have hl2 : y.atts.length = n2 := g.atts.1
  rw [alike_eq]
  by_cases he : m1 = m2 ∧ n1 = n2
  · obtain ⟨e1, rfl⟩ := he
    rw [decide_eq_true (show x.name = y.name by rw [← hm1, ← hm2, e1]), decide_eq_true (show x.atts.length = y.atts.length by omega), Bool.true_and, Bool.true_and]
    exact palike_loop i1 i2 m1 m2 aa1 aa2 n1 c1 c2 x.atts y.atts w h.atts g.atts h.few g.cap g.cap2 e1
  · have : (decide (x.name = y.name) && decide (x.atts.length = y.atts.length)) = false := by
      cases hc : (decide (x.name = y.name) && decide (x.atts.length = y.atts.length)) with
      | false => rfl
      | true =>
        simp at hc
        exact absurd ⟨by rw [hm1, hm2, hc.1], by omega⟩ he
    rw [this, Bool.false_and]
    exact palike_no i1 i2 m1 m2 aa1 aa2 n1 n2 c1 c2 w he
end Go.Proofs.Ytmgbjkekfejnfaa
