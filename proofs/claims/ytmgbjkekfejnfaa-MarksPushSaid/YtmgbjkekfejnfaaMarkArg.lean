/- Marks that came in, as the walks take them. -/
import Derived.Test.YtmgbjkekfejnfaaMarkM
import Derived.Test.YtmgbjkekfejnfaaAttArg
import Derived.Test.YtmgbjkekfejnfaaArgK
namespace Go.Proofs.Ytmgbjkekfejnfaa
open Go.ChangeShapes Go.WideShapes Go.ChangeAt Go.RowKit Go.Lib
set_option maxRecDepth 100000
set_option linter.unusedVariables false
/-- It is that mark, as it came in: nothing is known of how many attributes there are. -/
structure CameM (w : World) (r : MR) (x : Mk.M) : Prop where
  id : r.id = x.id
  name : r.name = x.name
  atts : IsA w r.aa r.an x.atts
  cap : r.an ≤ r.ac
  cap2 : r.ac ≤ 9223372036854775807
  nil : r.aa = none → r.ac = 0
  len : x.name.length ≤ 9223372036854775807
  lens : ∀ p ∈ x.atts, p.1.length ≤ 9223372036854775807 ∧ p.2.length ≤ 9223372036854775807
  num : -9223372036854775808 ≤ x.id ∧ x.id ≤ 9223372036854775807
def CamesM (w : World) (rs : List MR) (xs : List Mk.M) : Prop := rs.length = xs.length ∧ ∀ (i : Nat) r x, rs[i]? = some r → xs[i]? = some x → CameM w r x
theorem CameM.below {w w' : World} {r : MR} {x : Mk.M} (h : CameM w r x) (hb : Below w.heap.size w w') : CameM w' r x := { h with atts := h.atts.below hb }
theorem CamesM.below {w w' : World} {rs : List MR} {xs : List Mk.M} (h : CamesM w rs xs) (hb : Below w.heap.size w w') : CamesM w' rs xs := ⟨h.1, fun i r x hr hx => (h.2 i r x hr hx).below hb⟩
theorem CameM.fit {w : World} {r : MR} {x : Mk.M} (h : CameM w r x) : FitM w r x := ⟨h.id, h.name, h.atts, h.cap, h.cap2, h.nil⟩
theorem CamesM.fits {w : World} {rs : List MR} {xs : List Mk.M} (h : CamesM w rs xs) : AttsM w rs xs := ⟨h.1, fun i r x hr hx => (h.2 i r x hr hx).fit⟩
section
variable {H : Type} {enc : TypeId × Value → H}
/-- A struct of three cells, opened. -/
theorem open_three {P : Program} {w : World} {base : Nat} {spare : Nat → Bool} {held : Bool} {e : TypeId} {f0 f1 f2 : Field} {fuel : Nat} {cs : List Value} {x : DataW H × List MemPlace} (he : P.underlying e = some (.struct #[f0, f1, f2]))
    (ce : P.cellsOf e = 3) (o : f0.offset = 0 ∧ f1.offset = 1 ∧ f2.offset = 2) (c : P.cellsOf f0.type = 1 ∧ P.cellsOf f1.type = 1 ∧ P.cellsOf f2.type = 1)
    (h : DataW.trod enc P w base spare held fuel e cs = some x) :
    ∃ v0 v1 v2 y0 y1 y2 k, cs = [v0, v1, v2] ∧ fuel = k + 1 ∧ DataW.trod enc P w base spare held k f0.type [v0] = some y0 ∧ DataW.trod enc P w base spare held k f1.type [v1] = some y1 ∧ DataW.trod enc P w base spare held k f2.type [v2] = some y2 := by
  obtain ⟨xs, k, hk, _, hlen, hxl, hf⟩ := DataW.trod_struct he h
  rw [ce] at hlen
  obtain ⟨o0, o1, o2⟩ := o
  obtain ⟨c0, c1, c2⟩ := c
  match xs, hxl, cs, hlen with
  | [y0, y1, y2], _, [v0, v1, v2], _ =>
    have g0 := hf 0 f0 rfl
    have g1 := hf 1 f1 rfl
    have g2 := hf 2 f2 rfl
    simp [o0, o1, o2, c0, c1, c2] at g0 g1 g2
    exact ⟨v0, v1, v2, y0, y1, y2, k, rfl, hk, g0, g1, g2⟩
/-- One mark's cells, out of their reading. -/
theorem mark_arg {W : World} {k : Nat} {cs : List Value} {y : DataW H × List MemPlace} (h : DataW.trod enc Try.prog W 0 (fun _ => true) true k 25 cs = some y) :
    ∃ r x, cs = [.int .i64 r.id, .string (bs r.name), .slice r.aa r.an r.ac] ∧ CameM W r x := by
  obtain ⟨v0, v1, v2, y0, y1, y2, j, rfl, rfl, t0, t1, t2⟩ := open_three Try.underlying25 (by kernel_rfl) ⟨rfl, rfl, rfl⟩ ⟨by kernel_rfl, by kernel_rfl, by kernel_rfl⟩ h
  obtain ⟨k0, rfl, w0⟩ := i64_arg t0
  obtain ⟨s1, e1, _, z1⟩ := DataW.trod_string Try.underlying9 t1
  obtain ⟨a2, n2, c2, ls, rfl, i2, l2, m2, x2, q2⟩ := attrs_arg t2
  simp at e1
  subst e1
  refine ⟨⟨k0, s1.data.toList, a2, n2, c2⟩, ⟨k0, s1.data.toList, ls⟩, by cases s1; simp [bs], rfl, rfl, i2, l2, by show c2 ≤ _; unfold maxLen at m2; omega, x2, ?_, ?_, w0⟩
  · show s1.data.toList.length ≤ _
    rw [size_list]
    exact z1
  · intro p hp
    have := q2 p hp
    unfold maxLen at this
    omega
/-- A list of marks, out of its reading. -/
theorem marks_arg {W : World} (n : Nat) {v : Value} {y : DataW H × List MemPlace} (h : DataW.trod enc Try.prog W 0 (fun _ => true) true n 22 [v] = some y) :
    ∃ a len cap rs xs, v = .slice a len cap ∧ RowM W a len rs ∧ CamesM W rs xs ∧ len ≤ cap ∧ cap ≤ maxLen ∧ (a = none → cap = 0) := by
  rcases DataW.trod_slice Try.underlying22 h with ⟨hcs, _⟩ | ⟨a, len, cap, elems, rest, m, rfl, hcs, _, _, hl, hm, hlen, hel, _⟩
  · simp at hcs
    exact ⟨none, 0, 0, [], [], hcs, ⟨rfl, .inl rfl⟩, ⟨rfl, (fun i r x hr => by simp at hr)⟩, Nat.le_refl _, by unfold maxLen; omega, fun _ => rfl⟩
  · simp at hcs
    have hsp0 : len ≠ 0 → a.spot = none := by
      intro h0
      have key := hel 0 (by omega)
      rw [show Try.prog.cellsOf 25 = 3 by kernel_rfl, List.getElem?_eq_getElem (by omega)] at key
      obtain ⟨cs, h1, _⟩ := Option.bind_eq_some_iff.1 key
      obtain ⟨_, hl6, hc⟩ := World.cells?_some h1
      have c0 := hc 0 (by omega)
      rw [List.getElem?_eq_getElem (by omega)] at c0
      have := World.cell?_spot c0
      simpa [Addr.add] using this
    have hall : ∀ i, ∃ p : MR × Mk.M, i < len → (a.spot = none ∧ W.cell? ⟨a.block, a.off + i * 3, none⟩ = some (.int .i64 p.1.id) ∧ W.cell? ⟨a.block, a.off + i * 3 + 1, none⟩ = some (.string (bs p.1.name)) ∧ W.cell? ⟨a.block, a.off + i * 3 + 2, none⟩ = some (.slice p.1.aa p.1.an p.1.ac)) ∧ CameM W p.1 p.2 := by
      intro i
      by_cases hi : i < len
      · have key := hel i hi
        rw [show Try.prog.cellsOf 25 = 3 by kernel_rfl, List.getElem?_eq_getElem (by omega)] at key
        obtain ⟨cs, h1, h2⟩ := Option.bind_eq_some_iff.1 key
        obtain ⟨r, x, rfl, hC⟩ := mark_arg h2
        obtain ⟨_, _, hc⟩ := World.cells?_some h1
        have c0 := hc 0 (by omega)
        have c1 := hc 1 (by omega)
        have c2 := hc 2 (by omega)
        obtain ⟨b, off, sp⟩ := a
        obtain rfl : sp = none := hsp0 (by omega)
        rw [addr_add, addr_add] at c0 c1 c2
        exact ⟨(r, x), fun _ => ⟨⟨rfl, c0, c1, c2⟩, hC⟩⟩
      · exact ⟨(⟨0, [], none, 0, 0⟩, ⟨0, [], []⟩), fun h => absurd h hi⟩
    obtain ⟨f, hf⟩ := Classical.axiomOfChoice hall
    refine ⟨some a, len, cap, (List.range len).map fun i => (f i).1, (List.range len).map fun i => (f i).2, hcs, ⟨by simp, ?_⟩, ⟨by simp, ?_⟩, hl, hm, fun e => (by cases e)⟩
    · by_cases h0 : len = 0
      · exact .inl h0
      · obtain ⟨⟨hsp, _⟩, _⟩ := hf 0 (by omega)
        obtain ⟨b, off, sp⟩ := a
        obtain rfl : sp = none := hsp
        refine .inr ⟨b, off, rfl, fun i x hi => ?_⟩
        rw [List.getElem?_map, Option.map_eq_some_iff] at hi
        obtain ⟨j, hj, rfl⟩ := hi
        have hjl : i < len := by
          have := (List.getElem?_eq_some_iff.1 hj).1
          simpa using this
        rw [List.getElem?_range hjl] at hj
        obtain rfl := Option.some.inj hj
        exact (hf i hjl).1.2
    · intro i r x hr hx
      rw [List.getElem?_map, Option.map_eq_some_iff] at hr hx
      obtain ⟨j, hj, rfl⟩ := hr
      obtain ⟨j2, hj2, rfl⟩ := hx
      have hjl : i < len := by
        have := (List.getElem?_eq_some_iff.1 hj).1
        simpa using this
      rw [List.getElem?_range hjl] at hj hj2
      obtain rfl := Option.some.inj hj
      obtain rfl := Option.some.inj hj2
      exact (hf i hjl).2
end
end Go.Proofs.Ytmgbjkekfejnfaa
