/- A list of attributes that came in, as the walks take it. -/
import Derived.Test.YtmgbjkekfejnfaaPairs
import Derived.ProofKit
import Derived.OpenShut
import Derived.ChangeOld
import Derived.Deep.SlicePairs
import Derived.Lib.SmallJoins
namespace Go.Proofs.Ytmgbjkekfejnfaa
open Go.ChangeShapes Go.WideShapes Go.ChangeAt Go.RowKit Go.Lib Go.Deep Go.Joins
set_option maxRecDepth 100000
set_option linter.unusedVariables false
section
variable {H : Type} {enc : TypeId × Value → H}
/-- A list of attributes, out of its reading. -/
theorem attrs_arg {W : World} {n : Nat} {v : Value} {y : DataW H × List MemPlace} (h : DataW.trod enc Try.prog W 0 (fun _ => true) true n 23 [v] = some y) :
    ∃ a len cap ls, v = .slice a len cap ∧ IsA W a len ls ∧ len ≤ cap ∧ cap ≤ maxLen ∧ (a = none → cap = 0) ∧ ∀ x ∈ ls, x.1.length ≤ maxLen ∧ x.2.length ≤ maxLen := by
  rcases open_slice_pairs Try.underlying23 Try.underlying38 (by kernel_rfl) rfl rfl (by kernel_rfl) (by kernel_rfl) h with ⟨hcs, _⟩ | ⟨x, len, cap, m, k, V0, V1, D0, D1, P0, P1, hcs, _, hl, hm, hmm, _, hcell⟩
  · simp at hcs
    exact ⟨none, 0, 0, [], hcs, ⟨rfl, .inl rfl⟩, Nat.le_refl _, by unfold maxLen; omega, fun _ => rfl, fun l hl => (by cases hl)⟩
  · simp at hcs
    have hml : len ≤ m := by rw [hmm]; simp; exact hl
    have hall : ∀ i, ∃ z : List UInt8 × List UInt8, i < len → W.cell? (x.add (i * 2)) = some (.string (bs z.1)) ∧ W.cell? (x.add (i * 2 + 1)) = some (.string (bs z.2)) ∧ z.1.length ≤ maxLen ∧ z.2.length ≤ maxLen := by
      intro i
      by_cases hi : i < len
      · obtain ⟨h0, h1, t0, t1⟩ := hcell i (by omega)
        obtain ⟨s0, e0, _, z0⟩ := DataW.trod_string Try.underlying9 t0
        obtain ⟨s1, e1, _, z1⟩ := DataW.trod_string Try.underlying9 t1
        simp at e0 e1
        refine ⟨(s0.data.toList, s1.data.toList), fun _ => ⟨?_, ?_, ?_, ?_⟩⟩
        · rw [h0, e0]; rfl
        · rw [h1, e1]; rfl
        · show s0.data.toList.length ≤ _; rw [size_list]; exact z0
        · show s1.data.toList.length ≤ _; rw [size_list]; exact z1
      · exact ⟨([], []), fun h => absurd h hi⟩
    obtain ⟨f, hf⟩ := Classical.axiomOfChoice hall
    refine ⟨some x, len, cap, (List.range len).map f, hcs, ⟨by simp, ?_⟩, hl, hm, fun e => (by cases e), ?_⟩
    · by_cases h0 : len = 0
      · exact .inl h0
      · obtain ⟨b, off, sp⟩ := x
        have hx0 := (hf 0 (by omega)).1
        have : sp = none := by simpa [Addr.add] using World.cell?_spot hx0
        subst this
        refine .inr ⟨b, off, rfl, fun i z hi => ?_⟩
        rw [List.getElem?_map, Option.map_eq_some_iff] at hi
        obtain ⟨j, hj, rfl⟩ := hi
        have hjl : i < len := by
          have := (List.getElem?_eq_some_iff.1 hj).1
          simpa using this
        rw [List.getElem?_range hjl] at hj
        obtain rfl := Option.some.inj hj
        obtain ⟨g0, g1, _, _⟩ := hf i hjl
        rw [add_plain] at g0 g1
        exact ⟨g0, by rw [Nat.add_assoc]; exact g1⟩
    · intro z hz
      obtain ⟨i, hi, rfl⟩ := List.mem_map.1 hz
      obtain ⟨_, _, g2, g3⟩ := hf i (List.mem_range.1 hi)
      exact ⟨g2, g3⟩
end
end Go.Proofs.Ytmgbjkekfejnfaa
