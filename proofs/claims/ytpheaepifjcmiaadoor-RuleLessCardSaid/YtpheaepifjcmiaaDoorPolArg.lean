/- A policy, and an attribute, that came in, as the walks take them. -/
import Derived.Test.YtpheaepifjcmiaaDoorMuch
import Derived.Test.YtpheaepifjcmiaaDoorArgs
import Derived.Deep.SlicePairs
import Derived.Lib.SmallJoins
namespace Go.Proofs.YtpheaepifjcmiaaDoor
open Go.ChangeShapes Go.WideShapes Go.ChangeAt Go.RowKit Go.Lib Go.Deep Go.Joins
set_option linter.unusedVariables false

theorem strs_len {ss : List ByteArray} (h : ∀ s ∈ ss, s.size ≤ maxLen) (len : Nat) : ∀ l ∈ (ss.take len).map (fun s => s.data.toList), l.length ≤ maxLen := by
  intro l hl
  obtain ⟨s, hs, rfl⟩ := List.mem_map.1 hl
  rw [size_list]
  exact h s (List.mem_of_mem_take hs)
/-- What lies at a pair's two cells. -/
def w_is (W : World) (x : Addr) (i : Nat) (z : List UInt8 × List UInt8) : Prop :=
  W.cell? (x.add (i * 2)) = some (.string (bs z.1)) ∧ W.cell? (x.add (i * 2 + 1)) = some (.string (bs z.2)) ∧ z.1.length ≤ maxLen ∧ z.2.length ≤ maxLen
section
variable {H : Type} {enc : TypeId × Value → H}
/-- A list of texts, out of its reading. -/
theorem strs_arg {W : World} {n : Nat} {v : Value} {y : DataW H × List MemPlace} (h : DataW.trod enc Tryd.prog W 0 (fun _ => true) true n 22 [v] = some y) :
    ∃ a len cap ls, v = .slice a len cap ∧ IsS W a len ls ∧ len ≤ cap ∧ cap ≤ maxLen ∧ (a = none → cap = 0) ∧ ∀ l ∈ ls, l.length ≤ maxLen := by
  rcases open_strings Tryd.underlying22 Tryd.underlying9 (by kernel_rfl) h with ⟨hcs, _⟩ | ⟨x, l, c, zs, hcs, _, hl, hm, hz, _, hcell, hsz⟩
  · simp at hcs
    exact ⟨none, 0, 0, [], hcs, ⟨rfl, .inl rfl⟩, Nat.le_refl _, by unfold maxLen; omega, fun _ => rfl, fun l hl => (by cases hl)⟩
  · simp at hcs
    exact ⟨some x, l, c, _, hcs, isS_of_strs hl (by simpa using hz) hcell, hl, hm, fun e => (by cases e), strs_len hsz l⟩
/-- A list of pairs, out of its reading. -/
theorem pairs_arg {W : World} {n : Nat} {v : Value} {y : DataW H × List MemPlace} (h : DataW.trod enc Tryd.prog W 0 (fun _ => true) true n 23 [v] = some y) :
    ∃ a len cap ls, v = .slice a len cap ∧ IsA W a len ls ∧ len ≤ cap ∧ cap ≤ maxLen ∧ (a = none → cap = 0) ∧ ∀ x ∈ ls, x.1.length ≤ maxLen ∧ x.2.length ≤ maxLen := by
  rcases open_slice_pairs Tryd.underlying23 Tryd.underlying36 (by kernel_rfl) rfl rfl (by kernel_rfl) (by kernel_rfl) h with ⟨hcs, _⟩ | ⟨x, len, cap, m, k, V0, V1, D0, D1, P0, P1, hcs, _, hl, hm, hmm, _, hcell⟩
  · simp at hcs
    exact ⟨none, 0, 0, [], hcs, ⟨rfl, .inl rfl⟩, Nat.le_refl _, by unfold maxLen; omega, fun _ => rfl, fun l hl => (by cases hl)⟩
  · simp at hcs
    have hml : len ≤ m := by rw [hmm]; simp; exact hl
    have hall : ∀ i, ∃ z : List UInt8 × List UInt8, i < len → w_is W x i z := by
      intro i
      by_cases hi : i < len
      · obtain ⟨h0, h1, t0, t1⟩ := hcell i (by omega)
        obtain ⟨s0, e0, _, z0⟩ := DataW.trod_string Tryd.underlying9 t0
        obtain ⟨s1, e1, _, z1⟩ := DataW.trod_string Tryd.underlying9 t1
        simp at e0 e1
        refine ⟨(s0.data.toList, s1.data.toList), fun _ => ⟨?_, ?_, ?_, ?_⟩⟩
        · rw [h0, e0]; rfl
        · rw [h1, e1]; rfl
        · show s0.data.toList.length ≤ _; rw [size_list]; exact z0
        · show s1.data.toList.length ≤ _; rw [size_list]; exact z1
      · exact ⟨([], []), fun h => absurd h hi⟩
    obtain ⟨f, hf⟩ := Classical.axiomOfChoice hall
    refine ⟨some x, len, cap, (List.range len).map f, hcs, ⟨by simp, ?_⟩, hl, hm, fun e => (by cases e), ?_⟩
    · by_cases h0 : len = 0
      · exact .inl h0
      · obtain ⟨b, off, sp⟩ := x
        have hx0 := (hf 0 (by omega)).1
        have : sp = none := by simpa [Addr.add] using World.cell?_spot hx0
        subst this
        refine .inr ⟨b, off, rfl, fun i z hi => ?_⟩
        rw [List.getElem?_map, Option.map_eq_some_iff] at hi
        obtain ⟨j, hj, rfl⟩ := hi
        have hjl : i < len := by
          have := (List.getElem?_eq_some_iff.1 hj).1
          simpa using this
        rw [List.getElem?_range hjl] at hj
        obtain rfl := Option.some.inj hj
        obtain ⟨g0, g1, _, _⟩ := hf i hjl
        rw [addr_add] at g0 g1
        exact ⟨g0, by rw [Nat.add_assoc]; exact g1⟩
    · intro z hz
      obtain ⟨i, hi, rfl⟩ := List.mem_map.1 hz
      obtain ⟨_, _, g2, g3⟩ := hf i (List.mem_range.1 hi)
      exact ⟨g2, g3⟩
/-- A policy, out of its reading. -/
theorem pol_arg {W : World} {b0 : Nat} {v : Value} {d : DataW H} {p : List MemPlace} (hv : Value.okWide Tryd.prog W .any b0 25 v) (h : DataW.Trod enc Tryd.prog W 0 (fun _ => true) true 25 v d p) :
    ∃ a1 n1 c1 es a2 n2 c2 ats a3 n3 c3 ss, v = .agg #[.slice a1 n1 c1, .slice a2 n2 c2, .slice a3 n3 c3] ∧ PolIn W a1 n1 c1 es a2 n2 c2 ats a3 n3 c3 ss ∧ (a1 = none → c1 = 0) ∧ (a2 = none → c2 = 0) ∧ (a3 = none → c3 = 0) := by
  obtain ⟨v0, v1, v2, y0, y1, y2, n, rfl, _, _, t0, t1, t2⟩ := open_agg3 Tryd.underlying25 (by kernel_rfl) (by kernel_rfl) hv h
  obtain ⟨a1, n1, c1, es, rfl, i1, l1, m1, z1, x1⟩ := strs_arg t0
  obtain ⟨a2, n2, c2, ats, rfl, i2, l2, m2, z2, x2⟩ := pairs_arg t1
  obtain ⟨a3, n3, c3, ss, rfl, i3, l3, m3, z3, x3⟩ := strs_arg t2
  unfold maxLen at m1 m2 m3 x1 x2 x3
  exact ⟨a1, n1, c1, es, a2, n2, c2, ats, a3, n3, c3, ss, rfl, ⟨i1, i2, i3, l1, l2, l3, by omega, by omega, by omega, fun l hl => by have := x1 l hl; omega, fun l hl => by have := x2 l hl; omega, fun l hl => by have := x3 l hl; omega⟩, z1, z2, z3⟩
/-- An attribute, out of its reading. -/
theorem attr_arg {W : World} {b0 : Nat} {v : Value} {d : DataW H} {p : List MemPlace} (hv : Value.okWide Tryd.prog W .any b0 38 v) (h : DataW.Trod enc Tryd.prog W 0 (fun _ => true) true 38 v d p) :
    ∃ y z : ByteArray, v = .agg #[.string y, .string z] ∧ y.size ≤ maxLen ∧ z.size ≤ maxLen := by
  obtain ⟨v0, v1, y0, y1, n, rfl, _, _, t0, t1⟩ := open_agg2 Tryd.underlying38 (by kernel_rfl) (by kernel_rfl) hv h
  obtain ⟨s0, e0, _, z0⟩ := DataW.trod_string Tryd.underlying9 t0
  obtain ⟨s1, e1, _, z1⟩ := DataW.trod_string Tryd.underlying9 t1
  simp at e0 e1
  exact ⟨s0, s1, by rw [e0, e1], z0, z1⟩
end
end Go.Proofs.YtpheaepifjcmiaaDoor
