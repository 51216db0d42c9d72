/- A list of open elements that came in, as the walks take it. -/
import Derived.Test.YtmgbjkekfejnfaaElem
import Derived.Test.YtmgbjkekfejnfaaArgK
namespace Go.Proofs.Ytmgbjkekfejnfaa
open Go.ChangeShapes Go.WideShapes Go.ChangeAt Go.RowKit Go.Lib
set_option maxRecDepth 100000
set_option linter.unusedVariables false
section
variable {H : Type} {enc : TypeId × Value → H}
/-- A struct of four cells, opened. -/
theorem open_four {P : Program} {w : World} {base : Nat} {spare : Nat → Bool} {held : Bool} {e : TypeId} {f0 f1 f2 f3 : Field} {fuel : Nat} {cs : List Value} {x : DataW H × List MemPlace} (he : P.underlying e = some (.struct #[f0, f1, f2, f3]))
    (ce : P.cellsOf e = 4) (o : f0.offset = 0 ∧ f1.offset = 1 ∧ f2.offset = 2 ∧ f3.offset = 3) (c : P.cellsOf f0.type = 1 ∧ P.cellsOf f1.type = 1 ∧ P.cellsOf f2.type = 1 ∧ P.cellsOf f3.type = 1)
    (h : DataW.trod enc P w base spare held fuel e cs = some x) :
    ∃ v0 v1 v2 v3 y0 y1 y2 y3 k, cs = [v0, v1, v2, v3] ∧ fuel = k + 1 ∧ DataW.trod enc P w base spare held k f0.type [v0] = some y0 ∧ DataW.trod enc P w base spare held k f1.type [v1] = some y1 ∧ DataW.trod enc P w base spare held k f2.type [v2] = some y2 ∧
      DataW.trod enc P w base spare held k f3.type [v3] = some y3 := by
  obtain ⟨xs, k, hk, _, hlen, hxl, hf⟩ := DataW.trod_struct he h
  rw [ce] at hlen
  obtain ⟨o0, o1, o2, o3⟩ := o
  obtain ⟨c0, c1, c2, c3⟩ := c
  match xs, hxl, cs, hlen with
  | [y0, y1, y2, y3], _, [v0, v1, v2, v3], _ =>
    have g0 := hf 0 f0 rfl
    have g1 := hf 1 f1 rfl
    have g2 := hf 2 f2 rfl
    have g3 := hf 3 f3 rfl
    simp [o0, o1, o2, o3, c0, c1, c2, c3] at g0 g1 g2 g3
    exact ⟨v0, v1, v2, v3, y0, y1, y2, y3, k, rfl, hk, g0, g1, g2, g3⟩
/-- A list of elements, out of its reading. -/
theorem elems_arg {W : World} (n : Nat) {v : Value} {y : DataW H × List MemPlace} (h : DataW.trod enc Try.prog W 0 (fun _ => true) true n 32 [v] = some y) :
    ∃ a len cap l, v = .slice a len cap ∧ IsE W a len l ∧ (∀ x ∈ l, eFits x) ∧ len ≤ cap ∧ cap ≤ maxLen ∧ (a = none → cap = 0) := by
  rcases DataW.trod_slice Try.underlying32 h with ⟨hcs, _⟩ | ⟨a, len, cap, elems, rest, m, rfl, hcs, _, _, hl, hm, hlen, hel, _⟩
  · simp at hcs
    exact ⟨none, 0, 0, [], hcs, ⟨rfl, .inl rfl⟩, (fun x hx => by cases hx), Nat.le_refl _, by unfold maxLen; omega, fun _ => rfl⟩
  · simp at hcs
    have hsp0 : len ≠ 0 → a.spot = none := by
      intro h0
      have key := hel 0 (by omega)
      rw [show Try.prog.cellsOf 46 = 4 by kernel_rfl, List.getElem?_eq_getElem (by omega)] at key
      obtain ⟨cs, h1, _⟩ := Option.bind_eq_some_iff.1 key
      obtain ⟨_, hl6, hc⟩ := World.cells?_some h1
      have c0 := hc 0 (by omega)
      rw [List.getElem?_eq_getElem (by omega)] at c0
      have := World.cell?_spot c0
      simpa [Addr.add] using this
    have hall : ∀ i, ∃ x : Opn.E, i < len → (a.spot = none ∧ W.cell? ⟨a.block, a.off + i * 4, none⟩ = some (.int .i64 x.id) ∧ W.cell? ⟨a.block, a.off + i * 4 + 1, none⟩ = some (.int .u8 x.space) ∧ W.cell? ⟨a.block, a.off + i * 4 + 2, none⟩ = some (.string (bs x.name)) ∧ W.cell? ⟨a.block, a.off + i * 4 + 3, none⟩ = some (.int .u8 x.point)) ∧ eFits x := by
      intro i
      by_cases hi : i < len
      · have key := hel i hi
        rw [show Try.prog.cellsOf 46 = 4 by kernel_rfl, List.getElem?_eq_getElem (by omega)] at key
        obtain ⟨cs, h1, h2⟩ := Option.bind_eq_some_iff.1 key
        obtain ⟨v0, v1, v2, v3, y0, y1, y2, y3, k, rfl, rfl, t0, t1, t2, t3⟩ := open_four Try.underlying46 (by kernel_rfl) ⟨rfl, rfl, rfl, rfl⟩ ⟨by kernel_rfl, by kernel_rfl, by kernel_rfl, by kernel_rfl⟩ h2
        obtain ⟨_, _, hc⟩ := World.cells?_some h1
        obtain ⟨k0, rfl, w0⟩ := i64_arg t0
        obtain ⟨k1, rfl, w1⟩ := int_arg t1
        obtain ⟨s2, e2, _, z2⟩ := DataW.trod_string Try.underlying9 t2
        obtain ⟨k3, rfl, w3⟩ := int_arg t3
        simp at e2
        subst e2
        have c0 := hc 0 (by omega)
        have c1 := hc 1 (by omega)
        have c2 := hc 2 (by omega)
        have c3 := hc 3 (by omega)
        obtain ⟨b, off, sp⟩ := a
        obtain rfl : sp = none := hsp0 (by omega)
        rw [addr_add, addr_add] at c0 c1 c2 c3
        refine ⟨⟨k0, k1, s2.data.toList, k3⟩, fun _ => ⟨⟨rfl, c0, c1, c2, c3⟩, w1, w3, ?_, w0⟩⟩
        show s2.data.toList.length ≤ _
        rw [size_list]
        exact z2
      · exact ⟨⟨0, 0, [], 0⟩, fun h => absurd h hi⟩
    obtain ⟨f, hf⟩ := Classical.axiomOfChoice hall
    refine ⟨some a, len, cap, (List.range len).map f, hcs, ⟨by simp, ?_⟩, ?_, hl, hm, fun e => (by cases e)⟩
    · by_cases h0 : len = 0
      · exact .inl h0
      · obtain ⟨⟨hsp, _⟩, _⟩ := hf 0 (by omega)
        obtain ⟨b, off, sp⟩ := a
        obtain rfl : sp = none := hsp
        refine .inr ⟨b, off, rfl, fun i x hi => ?_⟩
        rw [List.getElem?_map, Option.map_eq_some_iff] at hi
        obtain ⟨j, hj, rfl⟩ := hi
        have hjl : i < len := by
          have := (List.getElem?_eq_some_iff.1 hj).1
          simpa using this
        rw [List.getElem?_range hjl] at hj
        obtain rfl := Option.some.inj hj
        exact (hf i hjl).1.2
    · intro x hx
      obtain ⟨i, hi, rfl⟩ := List.mem_map.1 hx
      exact (hf i (List.mem_range.1 hi)).2
end
end Go.Proofs.Ytmgbjkekfejnfaa
