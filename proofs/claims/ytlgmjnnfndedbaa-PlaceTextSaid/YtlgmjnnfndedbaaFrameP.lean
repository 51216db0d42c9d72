/- A list of calls (package tympanlaw13's Op), as it came in. How large calls that came in may be: their texts and lists lie in memory. What the rows of this seat share: they list no variable. -/
import Derived.Test.YtlgmjnnfndedbaaPlaceOp
import Derived.Test.YtlgmjnnfndedbaaMarkSz
import Derived.Test.YtlgmjnnfndedbaaRefWhole
import Derived.Test.YtlgmjnnfndedbaaRows
import Derived.ProofKit
import Derived.OpenShut
import Derived.ShutString
import Derived.ChangeOld
import Derived.Below
import Derived.Deep.DeepHandedRow
import Derived.Lib.LaidTab
import Derived.Shelf.Vars
namespace Go.Proofs.Ytlgmjnnfndedbaa
open Go.ChangeShapes Go.WideShapes Go.ChangeAt Go.RowKit Go.Lib Go.Deep Go.Joins
set_option maxRecDepth 100000
set_option linter.unusedVariables false
section
variable {H : Type} {enc : TypeId × Value → H}
/-- A struct of five fields, one cell each, opened. -/
theorem open_five {P : Program} {w : World} {base : Nat} {spare : Nat → Bool} {held : Bool} {e : TypeId} {f0 f1 f2 f3 f4 : Field} {fuel : Nat} {cs : List Value} {x : DataW H × List MemPlace} (he : P.underlying e = some (.struct #[f0, f1, f2, f3, f4]))
    (ce : P.cellsOf e = 5) (o : f0.offset = 0 ∧ f1.offset = 1 ∧ f2.offset = 2 ∧ f3.offset = 3 ∧ f4.offset = 4) (c : P.cellsOf f0.type = 1 ∧ P.cellsOf f1.type = 1 ∧ P.cellsOf f2.type = 1 ∧ P.cellsOf f3.type = 1 ∧ P.cellsOf f4.type = 1)
    (h : DataW.trod enc P w base spare held fuel e cs = some x) :
    ∃ v0 v1 v2 v3 v4 y0 y1 y2 y3 y4 k, cs = [v0, v1, v2, v3, v4] ∧ fuel = k + 1 ∧ DataW.trod enc P w base spare held k f0.type [v0] = some y0 ∧ DataW.trod enc P w base spare held k f1.type [v1] = some y1 ∧
      DataW.trod enc P w base spare held k f2.type [v2] = some y2 ∧ DataW.trod enc P w base spare held k f3.type [v3] = some y3 ∧ DataW.trod enc P w base spare held k f4.type [v4] = some y4 := by
  obtain ⟨xs, k, hk, _, hlen, hxl, hf⟩ := DataW.trod_struct he h
  rw [ce] at hlen
  obtain ⟨o0, o1, o2, o3, o4⟩ := o
  obtain ⟨c0, c1, c2, c3, c4⟩ := c
  match xs, hxl, cs, hlen with
  | [y0, y1, y2, y3, y4], _, [v0, v1, v2, v3, v4], _ =>
    have g0 := hf 0 f0 rfl
    have g1 := hf 1 f1 rfl
    have g2 := hf 2 f2 rfl
    have g3 := hf 3 f3 rfl
    have g4 := hf 4 f4 rfl
    simp [o0, o1, o2, o3, o4, c0, c1, c2, c3, c4] at g0 g1 g2 g3 g4
    exact ⟨v0, v1, v2, v3, v4, y0, y1, y2, y3, y4, k, rfl, hk, g0, g1, g2, g3, g4⟩
/-- A struct of five fields, the third one a struct of five cells, opened. -/
theorem open_pop {P : Program} {w : World} {base : Nat} {spare : Nat → Bool} {held : Bool} {e : TypeId} {f0 f1 f2 f3 f4 : Field} {fuel : Nat} {cs : List Value} {x : DataW H × List MemPlace} (he : P.underlying e = some (.struct #[f0, f1, f2, f3, f4]))
    (ce : P.cellsOf e = 9) (o : f0.offset = 0 ∧ f1.offset = 1 ∧ f2.offset = 2 ∧ f3.offset = 7 ∧ f4.offset = 8) (c : P.cellsOf f0.type = 1 ∧ P.cellsOf f1.type = 1 ∧ P.cellsOf f2.type = 5 ∧ P.cellsOf f3.type = 1 ∧ P.cellsOf f4.type = 1)
    (h : DataW.trod enc P w base spare held fuel e cs = some x) :
    ∃ v0 v1 v2 v3 v4 v5 v6 v7 v8 y0 y1 y2 y3 y4 k, cs = [v0, v1, v2, v3, v4, v5, v6, v7, v8] ∧ fuel = k + 1 ∧ DataW.trod enc P w base spare held k f0.type [v0] = some y0 ∧ DataW.trod enc P w base spare held k f1.type [v1] = some y1 ∧
      DataW.trod enc P w base spare held k f2.type [v2, v3, v4, v5, v6] = some y2 ∧ DataW.trod enc P w base spare held k f3.type [v7] = some y3 ∧ DataW.trod enc P w base spare held k f4.type [v8] = some y4 := by
  obtain ⟨xs, k, hk, _, hlen, hxl, hf⟩ := DataW.trod_struct he h
  rw [ce] at hlen
  obtain ⟨o0, o1, o2, o3, o4⟩ := o
  obtain ⟨c0, c1, c2, c3, c4⟩ := c
  match xs, hxl, cs, hlen with
  | [y0, y1, y2, y3, y4], _, [v0, v1, v2, v3, v4, v5, v6, v7, v8], _ =>
    have g0 := hf 0 f0 rfl
    have g1 := hf 1 f1 rfl
    have g2 := hf 2 f2 rfl
    have g3 := hf 3 f3 rfl
    have g4 := hf 4 f4 rfl
    simp [o0, o1, o2, o3, o4, c0, c1, c2, c3, c4] at g0 g1 g2 g3 g4
    exact ⟨v0, v1, v2, v3, v4, v5, v6, v7, v8, y0, y1, y2, y3, y4, k, rfl, hk, g0, g1, g2, g3, g4⟩
/-- What is known of numbers and lengths. -/
def popFits (x : POp) : Prop := x.kind < 256 ∧ x.space < 256 ∧ x.tk < 256 ∧ x.nm.length ≤ 9223372036854775807 ∧ x.tx.length ≤ 9223372036854775807 ∧ x.atts.length ≤ 9223372036854775807 ∧ (∀ p ∈ x.atts, p.1.length ≤ maxLen ∧ p.2.length ≤ maxLen) ∧ (-9223372036854775808 ≤ x.n ∧ x.n ≤ 9223372036854775807)
/-- A list of calls, out of its reading. -/
theorem pops_arg {W : World} (n : Nat) {v : Value} {y : DataW H × List MemPlace} (h : DataW.trod enc Try.prog W 0 (fun _ => true) true n 22 [v] = some y) :
    ∃ a len cap os, v = .slice a len cap ∧ IsPops W a len os ∧ (∀ x ∈ os, popFits x) ∧ len ≤ cap ∧ cap ≤ maxLen ∧ (a = none → cap = 0) := by
  rcases DataW.trod_slice Try.underlying22 h with ⟨hcs, _⟩ | ⟨a, len, cap, elems, rest, m, rfl, hcs, _, _, hl, hm, hlen, hel, _⟩
  · simp at hcs
    exact ⟨none, 0, 0, [], hcs, ⟨rfl, .inl rfl⟩, (fun x hx => by cases hx), Nat.le_refl _, by unfold maxLen; omega, fun _ => rfl⟩
  · simp at hcs
    have hsp0 : len ≠ 0 → a.spot = none := by
      intro h0
      have key := hel 0 (by omega)
      rw [show Try.prog.cellsOf 33 = 9 by kernel_rfl, List.getElem?_eq_getElem (by omega)] at key
      obtain ⟨cs, h1, _⟩ := Option.bind_eq_some_iff.1 key
      obtain ⟨_, hl6, hc⟩ := World.cells?_some h1
      have c0 := hc 0 (by omega)
      rw [List.getElem?_eq_getElem (by omega)] at c0
      have := World.cell?_spot c0
      simpa [Addr.add] using this
    have hall : ∀ i, ∃ x : POp, i < len → (∃ aa an ac, a.spot = none ∧ POpAt W a.block (a.off + i * 9) x aa an ac) ∧ popFits x := by
      intro i
      by_cases hi : i < len
      · have key := hel i hi
        rw [show Try.prog.cellsOf 33 = 9 by kernel_rfl, List.getElem?_eq_getElem (by omega)] at key
        obtain ⟨cs, h1, h2⟩ := Option.bind_eq_some_iff.1 key
        obtain ⟨v0, v1, v2, v3, v4, v5, v6, v7, v8, y0, y1, y2, y3, y4, k, rfl, rfl, t0, t1, t2, t3, t4⟩ := open_pop Try.underlying33 (by kernel_rfl) ⟨rfl, rfl, rfl, rfl, rfl⟩ ⟨by kernel_rfl, by kernel_rfl, by kernel_rfl, by kernel_rfl, by kernel_rfl⟩ h2
        obtain ⟨_, _, hc⟩ := World.cells?_some h1
        obtain ⟨k0, rfl, w0⟩ := int_arg t0
        obtain ⟨k1, rfl, w1⟩ := int_arg t1
        obtain ⟨u0, u1, u2, u3, u4, z0, z1, z2, z3, z4, k', e1, rfl, r0, r1, r2, r3, r4⟩ := open_five Try.underlying31 (by kernel_rfl) ⟨rfl, rfl, rfl, rfl, rfl⟩ ⟨by kernel_rfl, by kernel_rfl, by kernel_rfl, by kernel_rfl, by kernel_rfl⟩ t2
        obtain ⟨z7, rfl, w7⟩ := i64_arg t3
        obtain ⟨b8, e8, _⟩ := DataW.trod_bool Try.underlying4 t4
        simp only [List.cons.injEq, and_true] at e1 e8
        obtain ⟨rfl, rfl, rfl, rfl, rfl⟩ := e1
        subst e8
        obtain ⟨kt, rfl, wt⟩ := int_arg r0
        obtain ⟨s1, q1, _, l1⟩ := DataW.trod_string Try.underlying9 r1
        obtain ⟨a2, n2, d2, ls, rfl, i2, o2, m2, x2, f2⟩ := attrs_arg r2
        obtain ⟨b3, q3, _⟩ := DataW.trod_bool Try.underlying4 r3
        obtain ⟨s4, q4, _, l4⟩ := DataW.trod_string Try.underlying9 r4
        simp at q1 q3 q4
        subst q1 q3 q4
        have c0 := hc 0 (by omega)
        have c1 := hc 1 (by omega)
        have c2 := hc 2 (by omega)
        have c3 := hc 3 (by omega)
        have c4 := hc 4 (by omega)
        have c5 := hc 5 (by omega)
        have c6 := hc 6 (by omega)
        have c7 := hc 7 (by omega)
        have c8 := hc 8 (by omega)
        obtain ⟨b, off, sp⟩ := a
        obtain rfl : sp = none := hsp0 (by omega)
        rw [add_plain, add_plain] at c0 c1 c2 c3 c4 c5 c6 c7 c8
        exact ⟨⟨k0, k1, kt, s1.data.toList, ls, b3, s4.data.toList, z7, b8⟩, fun _ => ⟨⟨a2, n2, d2, rfl, ⟨c0, c1, c2, c3, c4, c5, c6, c7, c8, i2, x2, o2, by unfold maxLen at m2; omega⟩⟩,
          w0, w1, wt, by show s1.data.toList.length ≤ _; rw [size_list]; exact l1, by show s4.data.toList.length ≤ _; rw [size_list]; exact l4, by show ls.length ≤ _; have := i2.1; unfold maxLen at m2; omega, f2, w7⟩⟩
      · exact ⟨⟨0, 0, 0, [], [], false, [], 0, false⟩, fun h => absurd h hi⟩
    obtain ⟨f, hf⟩ := Classical.axiomOfChoice hall
    refine ⟨some a, len, cap, (List.range len).map f, hcs, ⟨by simp, ?_⟩, ?_, hl, hm, fun e => (by cases e)⟩
    · by_cases h0 : len = 0
      · exact .inl h0
      · obtain ⟨⟨_, _, _, hsp, _⟩, _⟩ := hf 0 (by omega)
        obtain ⟨b, off, sp⟩ := a
        obtain rfl : sp = none := hsp
        refine .inr ⟨b, off, rfl, fun i x hi => ?_⟩
        rw [List.getElem?_map, Option.map_eq_some_iff] at hi
        obtain ⟨j, hj, rfl⟩ := hi
        have hjl : i < len := by
          have := (List.getElem?_eq_some_iff.1 hj).1
          simpa using this
        rw [List.getElem?_range hjl] at hj
        obtain rfl := Option.some.inj hj
        obtain ⟨aa, an, ac, _, hx⟩ := (hf i hjl).1
        exact ⟨aa, an, ac, hx⟩
    · intro x hx
      obtain ⟨i, hi, rfl⟩ := List.mem_map.1 hx
      exact (hf i (List.mem_range.1 hi)).2
end
end Go.Proofs.Ytlgmjnnfndedbaa
namespace Go.Proofs.Ytlgmjnnfndedbaa
open Go.ChangeShapes Go.WideShapes Go.ChangeAt Go.RowKit Go.Lib
set_option maxRecDepth 100000
set_option linter.unusedVariables false
theorem nine_of {α : Type} {l : List α} (h : l.length = 9) : ∃ a b c d e f g i j, l = [a, b, c, d, e, f, g, i, j] := by
  match l, h with
  | [a, b, c, d, e, f, g, i, j], _ => exact ⟨a, b, c, d, e, f, g, i, j, rfl⟩
section
variable {H : Type} {enc : TypeId × Value → H}
theorem open_five' {P : Program} {w : World} {base : Nat} {spare : Nat → Bool} {held : Bool} {e : TypeId} {f0 f1 f2 f3 f4 : Field} {fuel : Nat} {v0 v1 v2 v3 v4 : Value} {x : DataW H × List MemPlace} (he : P.underlying e = some (.struct #[f0, f1, f2, f3, f4]))
    (o : f0.offset = 0 ∧ f1.offset = 1 ∧ f2.offset = 2 ∧ f3.offset = 3 ∧ f4.offset = 4) (c : P.cellsOf f0.type = 1 ∧ P.cellsOf f1.type = 1 ∧ P.cellsOf f2.type = 1 ∧ P.cellsOf f3.type = 1 ∧ P.cellsOf f4.type = 1)
    (h : DataW.trod enc P w base spare held fuel e [v0, v1, v2, v3, v4] = some x) :
    ∃ (y0 y1 y2 y3 y4 : DataW H × List MemPlace) (k : Nat), x.1 = .agg [y0.1, y1.1, y2.1, y3.1, y4.1] ∧ DataW.trod enc P w base spare held k f1.type [v1] = some y1 ∧ DataW.trod enc P w base spare held k f2.type [v2] = some y2 ∧ DataW.trod enc P w base spare held k f4.type [v4] = some y4 := by
  obtain ⟨xs, k, hk, hx, hlen, hxl, hf⟩ := DataW.trod_struct he h
  obtain ⟨o0, o1, o2, o3, o4⟩ := o
  obtain ⟨c0, c1, c2, c3, c4⟩ := c
  match xs, hxl with
  | [y0, y1, y2, y3, y4], _ =>
    have g0 := hf 0 f0 rfl
    have g1 := hf 1 f1 rfl
    have g2 := hf 2 f2 rfl
    have g3 := hf 3 f3 rfl
    have g4 := hf 4 f4 rfl
    simp [o0, o1, o2, o3, o4, c0, c1, c2, c3, c4] at g0 g1 g2 g3 g4
    exact ⟨y0, y1, y2, y3, y4, k, by rw [hx]; rfl, g1, g2, g4⟩
theorem open_pop' {P : Program} {w : World} {base : Nat} {spare : Nat → Bool} {held : Bool} {e : TypeId} {f0 f1 f2 f3 f4 : Field} {fuel : Nat} {v0 v1 v2 v3 v4 v5 v6 v7 v8 : Value} {x : DataW H × List MemPlace} (he : P.underlying e = some (.struct #[f0, f1, f2, f3, f4]))
    (o : f0.offset = 0 ∧ f1.offset = 1 ∧ f2.offset = 2 ∧ f3.offset = 7 ∧ f4.offset = 8) (c : P.cellsOf f0.type = 1 ∧ P.cellsOf f1.type = 1 ∧ P.cellsOf f2.type = 5 ∧ P.cellsOf f3.type = 1 ∧ P.cellsOf f4.type = 1)
    (h : DataW.trod enc P w base spare held fuel e [v0, v1, v2, v3, v4, v5, v6, v7, v8] = some x) :
    ∃ (y0 y1 y2 y3 y4 : DataW H × List MemPlace) (k : Nat), x.1 = .agg [y0.1, y1.1, y2.1, y3.1, y4.1] ∧ DataW.trod enc P w base spare held k f2.type [v2, v3, v4, v5, v6] = some y2 := by
  obtain ⟨xs, k, hk, hx, hlen, hxl, hf⟩ := DataW.trod_struct he h
  obtain ⟨o0, o1, o2, o3, o4⟩ := o
  obtain ⟨c0, c1, c2, c3, c4⟩ := c
  match xs, hxl with
  | [y0, y1, y2, y3, y4], _ =>
    have g2 := hf 2 f2 rfl
    simp [o2, c2] at g2
    exact ⟨y0, y1, y2, y3, y4, k, by rw [hx]; rfl, g2⟩
theorem pops_sized {W : World} {n : Nat} {a : Option Addr} {len cap : Nat} {os : List POp} {y : DataW H × List MemPlace} (h : DataW.trod enc Try.prog W 0 (fun _ => true) true n 22 [.slice a len cap] = some y)
    (hR : IsPops W a len os) (hw : Wt Try.prog 22 y.1) : len ≤ 281474976710656 ∧ ∀ x ∈ os, x.Sized := by
  rcases DataW.trod_slice Try.underlying22 h with ⟨hcs, _⟩ | ⟨x, l, c, elems, rest, m, rfl, hcs, rfl, _, hl, hm, hlen, hel, _⟩
  · simp at hcs
    obtain ⟨rfl, rfl, rfl⟩ := hcs
    have h0 := hR.1
    refine ⟨by omega, fun x hx => ?_⟩
    rw [List.length_eq_zero_iff.1 h0] at hx
    cases hx
  · simp at hcs
    obtain ⟨rfl, rfl, rfl⟩ := hcs
    obtain ⟨k1, k2⟩ := Wt.slice hw Try.underlying22
    have hr : reachBytes = 140737488351232 := rfl
    rw [show Try.prog.bytesOf 33 = 96 by kernel_rfl, List.length_map, hlen, hr] at k1
    refine ⟨by omega, fun x hx => ?_⟩
    obtain ⟨i, hi⟩ := List.getElem?_of_mem hx
    have hil : i < len := by have := (List.getElem?_eq_some_iff.1 hi).1; have := hR.1; omega
    obtain ⟨_, h0 | ⟨b, off, e, hat⟩⟩ := hR
    · omega
    obtain rfl := Option.some.inj e
    obtain ⟨aa, an, ac, X⟩ := hat i x hi
    have key := hel i hil
    rw [show Try.prog.cellsOf 33 = 9 by kernel_rfl, List.getElem?_eq_getElem (by omega)] at key
    obtain ⟨cs, u1, u2⟩ := Option.bind_eq_some_iff.1 key
    obtain ⟨_, hcl, hc⟩ := World.cells?_some u1
    have c3 := hc 3 (by omega)
    have c4 := hc 4 (by omega)
    have c6 := hc 6 (by omega)
    rw [addr_add, addr_add] at c3 c4 c6
    rw [show off + i * 9 + 3 = off + i * 9 + 2 + 1 from rfl, X.t1] at c3
    rw [show off + i * 9 + 4 = off + i * 9 + 2 + 2 from rfl, X.t2] at c4
    rw [show off + i * 9 + 6 = off + i * 9 + 2 + 4 from rfl, X.t4] at c6
    have hd := k2 elems[i].1 (List.mem_map_of_mem (List.getElem_mem _))
    obtain ⟨v0, v1, v2, v3, v4, v5, v6, v7, v8, rfl⟩ := nine_of hcl
    simp at c3 c4 c6
    subst c3 c4 c6
    obtain ⟨y0, y1, y2, y3, y4, k, hy, t2⟩ := open_pop' Try.underlying33 ⟨rfl, rfl, rfl, rfl, rfl⟩ ⟨by kernel_rfl, by kernel_rfl, by kernel_rfl, by kernel_rfl, by kernel_rfl⟩ u2
    rw [hy] at hd
    have hd2 := hd.part Try.underlying33 (j := 2) rfl rfl
    obtain ⟨z0, z1, z2, z3, z4, k', hz, s1, s2, s4⟩ := open_five' Try.underlying31 ⟨rfl, rfl, rfl, rfl, rfl⟩ ⟨by kernel_rfl, by kernel_rfl, by kernel_rfl, by kernel_rfl, by kernel_rfl⟩ t2
    rw [hz] at hd2
    have r1 := text_sized s1 (hd2.part Try.underlying31 (j := 1) rfl rfl)
    have r4 := text_sized s4 (hd2.part Try.underlying31 (j := 4) rfl rfl)
    obtain ⟨r2, r3⟩ := attrs_sized s2 X.atts (hd2.part Try.underlying31 (j := 2) rfl rfl)
    exact ⟨r1, r4, by have := X.atts.1; omega, r3⟩
end
end Go.Proofs.Ytlgmjnnfndedbaa
namespace Go.Proofs.Ytlgmjnnfndedbaa
open Go.ChangeShapes Go.WideShapes Go.ChangeAt Go.RowKit Go.Lib
set_option linter.unusedVariables false
set_option maxRecDepth 100000

theorem own : ownKnob Try.prog.godebug = none := by kernel_rfl
theorem laidOut : laidOutB Try.prog = true := by kernel_rfl
/-- Whatever world. -/
def AnyW (w : World) : Prop := True
theorem tabs_of_laid {W : World} {Q : Prop} (h : Q) : AnyW W := True.intro
/-- A world for the witness. -/
noncomputable def laidWorld (os : Os) : World := World.holding Try.prog os ⟨#[], #[], []⟩
theorem laid_met (os : Os) (args : Array Value) : laidMet Try.prog ([] : List (String × DataW Unit)) ((laidWorld os).forCall (fun _ _ => 0) ⟨#[], args, []⟩).memory :=
  laidMet_of_run' 8 (by kernel_rfl) (by kernel_rfl)
end Go.Proofs.Ytlgmjnnfndedbaa
