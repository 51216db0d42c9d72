/- Plain Lean: cut at a byte; what an address's scheme is, step by step. Nothing of a program stands here. -/
import Derived.Test.YtpheaepifjcmiaaDoorUrl
namespace Go.Proofs.YtpheaepifjcmiaaDoor.Url
open Go.Lib
set_option maxRecDepth 100000
set_option linter.unusedVariables false

/-- Up to the first such byte. -/
theorem cut_one (x : UInt8) : ∀ l : List UInt8, (∃ p q, cut l [x] = (p, q, true) ∧ l = p ++ x :: q ∧ ∀ c ∈ p, c ≠ x) ∨ (cut l [x] = (l, [], false) ∧ ∀ c ∈ l, c ≠ x)
  | [] => .inr ⟨rfl, by simp⟩
  | c :: r => by
    by_cases hc : c = x
    · subst hc
      refine .inl ⟨[], r, ?_, rfl, by simp⟩
      unfold cut index
      simp
    · have e : index (c :: r) [x] = if index r [x] == -1 then -1 else index r [x] + 1 := by
        conv => lhs; unfold index
        rw [if_neg (by simp [Ne.symm hc])]
      have hge := index_ge r [x]
      rcases cut_one x r with ⟨p, q, h1, h2, h3⟩ | ⟨h1, h2⟩
      · have hi : 0 ≤ index r [x] := by
          apply Classical.byContradiction
          intro hn
          unfold cut at h1
          rw [if_neg hn] at h1
          simp at h1
        have e2 : index (c :: r) [x] = index r [x] + 1 := by rw [e, if_neg (by simp; omega)]
        unfold cut at h1
        rw [if_pos hi] at h1
        refine .inl ⟨c :: p, q, ?_, by rw [h2]; rfl, ?_⟩
        · unfold cut
          rw [e2, if_pos (by omega)]
          have e3 : (index r [x] + 1).toNat = (index r [x]).toNat + 1 := by omega
          simp only [Prod.mk.injEq] at h1
          rw [e3, List.take_succ_cons, h1.1]
          have e4 : (index r [x]).toNat + 1 + [x].length = ((index r [x]).toNat + [x].length) + 1 := by simp
          rw [e4, List.drop_succ_cons, h1.2.1]
        · intro y hy
          rcases List.mem_cons.1 hy with rfl | hy
          · exact hc
          · exact h3 y hy
      · have hi : ¬ 0 ≤ index r [x] := by
          intro hi
          unfold cut at h1
          rw [if_pos hi] at h1
          simp at h1
        have e2 : index (c :: r) [x] = -1 := by rw [e, if_pos (by simp; omega)]
        refine .inr ⟨by unfold cut; rw [e2]; rfl, ?_⟩
        intro y hy
        rcases List.mem_cons.1 hy with rfl | hy
        · exact hc
        · exact h2 y hy
theorem schemeOf_no {t p q : List UInt8} (h : cut t [58] = (p, q, false)) : schemeOf t = none := by
  unfold schemeOf; rw [h]; simp
theorem schemeOf_nil {t q : List UInt8} {m : Bool} (h : cut t [58] = ([], q, m)) : schemeOf t = none := by
  unfold schemeOf; rw [h]; simp
theorem schemeOf_first {t p q : List UInt8} {m : Bool} (h : cut t [58] = (p, q, m)) (hl : letterN (U8.B p 0) = false) : schemeOf t = none := by
  unfold schemeOf; rw [h]; simp [hl]
theorem schemeOf_bad {t p q : List UInt8} {m : Bool} (h : cut t [58] = (p, q, m)) (hl : p.all mayS = false) : schemeOf t = none := by
  unfold schemeOf; rw [h]; simp [hl]
theorem schemeOf_yes {t p q : List UInt8} (h : cut t [58] = (p, q, true)) (hn : p ≠ []) (hl : letterN (U8.B p 0) = true) (ha : p.all mayS = true) : schemeOf t = some (lowL p) := by
  unfold schemeOf
  rw [h]
  show (if true = true ∧ p ≠ [] ∧ letterN (U8.B p 0) = true ∧ p.all mayS = true then some (lowL p) else none) = _
  rw [if_pos ⟨rfl, hn, hl, ha⟩]
theorem all_take_next {p : List UInt8} {k : Nat} (h : (p.take k).all mayS = true) (hk : k < p.length) (hc : mayS p[k] = true) : (p.take (k + 1)).all mayS = true := by
  rw [List.take_succ_eq_append_getElem hk, List.all_append, h]
  simp [hc]
theorem all_take_done {p : List UInt8} {k : Nat} (h : (p.take k).all mayS = true) (hk : ¬ k < p.length) : p.all mayS = true := by
  rwa [List.take_of_length_le (by omega)] at h
theorem all_bad {p : List UInt8} {k : Nat} (hk : k < p.length) (hc : mayS p[k] = false) : p.all mayS = false := by
  rw [List.all_eq_false]
  exact ⟨p[k], List.getElem_mem hk, by rw [hc]; decide⟩
theorem letter_may {c : UInt8} (h : letterN c.toNat = true) : mayS c = true := by
  unfold mayS; rw [h]; rfl
end Go.Proofs.YtpheaepifjcmiaaDoor.Url
