/- A list of calls (package tympanlaw10's Op) in memory, and as it came in. What the rows of this seat share: they list no variable. Walks: package tympanlaw10: whether calls are more than is looked at. -/
import Derived.Test.YthbklcpjbeelhaaNodeArg
import Derived.Test.YthbklcpjbeelhaaRows
import Derived.Test.YthbklcpjbeelhaaDomKn
import Derived.Test.YthbklcpjbeelhaaSameN
import Derived.Test.YthbklcpjbeelhaaNodeWt
import Derived.ProofKit
import Derived.OpenShut
import Derived.ShutString
import Derived.ChangeOld
import Derived.Below
import Derived.Deep.DeepHandedRow
import Derived.Lib.LaidTab
import Derived.Shelf.Vars
import Derived.Deep.LoopGhost
namespace Go.Proofs.Ythbklcpjbeelhaa
open Go.ChangeShapes Go.WideShapes Go.ChangeAt Go.RowKit Go.Lib Go.Deep Go.Joins
set_option maxRecDepth 100000
set_option linter.unusedVariables false

structure DOp where
  kind : Nat
  n : Dom.N
  a : Int
  b : Int
  c : Int
/-- One of them: its ten cells from off on. -/
structure OpAt (d : Nat) (w : World) (b off : Nat) (x : DOp) (aa : Option Addr) (an ac : Nat) (ka : Option Addr) (kn kc : Nat) : Prop where
  k0 : w.cell? ⟨b, off, none⟩ = some (.int .u8 x.kind)
  nd : NodeAt (fun _ => True) (IsN (fun _ => True) d w) w b (off + 1) x.n aa an ac ka kn kc
  a7 : w.cell? ⟨b, off + 7, none⟩ = some (.int .i64 x.a)
  b8 : w.cell? ⟨b, off + 8, none⟩ = some (.int .i64 x.b)
  c9 : w.cell? ⟨b, off + 9, none⟩ = some (.int .i64 x.c)
def IsOps (d : Nat) (w : World) (a : Option Addr) (n : Nat) (os : List DOp) : Prop :=
  os.length = n ∧ (n = 0 ∨ ∃ b off, a = some ⟨b, off, none⟩ ∧ ∀ (i : Nat) x, os[i]? = some x → ∃ aa an ac ka kn kc, OpAt d w b (off + i * 10) x aa an ac ka kn kc)
theorem NodeAt.below {S : Nat → Prop} {d : Nat} {w w' : World} {b off : Nat} {x : Dom.N} {aa : Option Addr} {an ac : Nat} {ka : Option Addr} {kn kc : Nat} (h : NodeAt S (IsN S d w) w b off x aa an ac ka kn kc) (hb : Below w.heap.size w w') : NodeAt S (IsN S d w') w' b off x aa an ac ka kn kc := by
  have up : ∀ {p : Addr} {v : Value}, w.cell? p = some v → w'.cell? p = some v := fun hc => (hb.cell (World.block_lt_of_cell? _ _ hc)).trans hc
  exact ⟨up h.c0, up h.c1, up h.c2, up h.c3, up h.c4, up h.c5, h.atts.below hb, h.inS, h.kids.below hb, h.anil, h.knil⟩
theorem OpAt.below {d : Nat} {w w' : World} {b off : Nat} {x : DOp} {aa : Option Addr} {an ac : Nat} {ka : Option Addr} {kn kc : Nat} (h : OpAt d w b off x aa an ac ka kn kc) (hb : Below w.heap.size w w') : OpAt d w' b off x aa an ac ka kn kc := by
  have up : ∀ {p : Addr} {v : Value}, w.cell? p = some v → w'.cell? p = some v := fun hc => (hb.cell (World.block_lt_of_cell? _ _ hc)).trans hc
  exact ⟨up h.k0, h.nd.below hb, up h.a7, up h.b8, up h.c9⟩
theorem IsOps.below {d : Nat} {w w' : World} {a : Option Addr} {n : Nat} {os : List DOp} (h : IsOps d w a n os) (hb : Below w.heap.size w w') : IsOps d w' a n os :=
  ⟨h.1, h.2.imp id fun ⟨b, off, e, hat⟩ => ⟨b, off, e, fun i x hx => by
    obtain ⟨aa, an, ac, ka, kn, kc, X⟩ := hat i x hx
    exact ⟨aa, an, ac, ka, kn, kc, X.below hb⟩⟩⟩
section
variable {H : Type} {enc : TypeId × Value → H}
theorem i64_arg {W : World} {n : Nat} {v : Value} {y : DataW H × List MemPlace} (h : DataW.trod enc Try.prog W 0 (fun _ => true) true n 3 [v] = some y) : ∃ k : Int, v = .int .i64 k ∧ -9223372036854775808 ≤ k ∧ k ≤ 9223372036854775807 := by
  obtain ⟨k, e, _, hw⟩ := DataW.trod_int Try.underlying3 h
  simp at e
  refine ⟨k, e, ?_⟩
  simp [Lit.wf, IntKind.min, IntKind.max, IntKind.signed, IntKind.bits] at hw
  omega
/-- A node's six cells, out of their reading. -/
theorem node_arg {W : World} {n : Nat} {cs : List Value} {y : DataW H × List MemPlace} (h : DataW.trod enc Try.prog W 0 (fun _ => true) true n 32 cs = some y) :
    ∃ (x : Dom.N) (a3 : Option Addr) (n3 c3 : Nat) (a5 : Option Addr) (n5 c5 : Nat), cs = [.int .u8 x.kind, .int .u8 x.space, .string (bs x.name), .slice a3 n3 c3, .string (bs x.text), .slice a5 n5 c5] ∧ x.kind < 256 ∧ x.space < 256 ∧
      IsA W a3 n3 x.atts ∧ IsN (fun _ => True) n W a5 n5 x.kids ∧ (a3 = none → c3 = 0) ∧ (a5 = none → c5 = 0) ∧ nodeFits n x := by
  obtain ⟨v0, v1, v2, v3, v4, v5, y0, y1, y2, y3, y4, y5, k, rfl, rfl, t0, t1, t2, t3, t4, t5⟩ := open_six Try.underlying32 (by kernel_rfl) ⟨rfl, rfl, rfl, rfl, rfl, rfl⟩ ⟨by kernel_rfl, by kernel_rfl, by kernel_rfl, by kernel_rfl, by kernel_rfl, by kernel_rfl⟩ h
  obtain ⟨k0, rfl, w0⟩ := int_arg t0
  obtain ⟨k1, rfl, w1⟩ := int_arg t1
  obtain ⟨s2, e2, _, z2⟩ := DataW.trod_string Try.underlying9 t2
  obtain ⟨a3, n3, c3, ls, rfl, i3, l3, m3, x3, q3⟩ := attrs_arg t3
  obtain ⟨s4, e4, _, z4⟩ := DataW.trod_string Try.underlying9 t4
  obtain ⟨a5, n5, c5, ks, rfl, i5, o5, l5, m5, x5⟩ := nodes_arg k t5
  simp at e2 e4
  subst e2 e4
  exact ⟨.mk k0 k1 s2.data.toList ls s4.data.toList ks, a3, n3, c3, a5, n5, c5, rfl, w0, w1, i3, i5.deeper (Nat.le_succ _), x3, x5,
    by show s4.data.toList.length ≤ _; rw [size_list]; exact z4, by show s2.data.toList.length ≤ _; rw [size_list]; exact z2, q3, by show ls.length ≤ _; have := i3.1; omega, by show ks.length ≤ _; have := i5.len; omega, okL_deeper (Nat.le_succ _) i5.depth o5⟩
def opFits (d : Nat) (x : DOp) : Prop := nodeFits d x.n ∧ x.kind < 256 ∧ x.n.kind < 256 ∧ x.n.space < 256 ∧ (-9223372036854775808 ≤ x.a ∧ x.a ≤ 9223372036854775807) ∧ (-9223372036854775808 ≤ x.b ∧ x.b ≤ 9223372036854775807) ∧ (-9223372036854775808 ≤ x.c ∧ x.c ≤ 9223372036854775807)
/-- A struct of five fields, the second one a struct of six cells, opened. -/
theorem open_op {P : Program} {w : World} {base : Nat} {spare : Nat → Bool} {held : Bool} {e : TypeId} {f0 f1 f2 f3 f4 : Field} {fuel : Nat} {cs : List Value} {x : DataW H × List MemPlace} (he : P.underlying e = some (.struct #[f0, f1, f2, f3, f4]))
    (ce : P.cellsOf e = 10) (o : f0.offset = 0 ∧ f1.offset = 1 ∧ f2.offset = 7 ∧ f3.offset = 8 ∧ f4.offset = 9) (c : P.cellsOf f0.type = 1 ∧ P.cellsOf f1.type = 6 ∧ P.cellsOf f2.type = 1 ∧ P.cellsOf f3.type = 1 ∧ P.cellsOf f4.type = 1)
    (h : DataW.trod enc P w base spare held fuel e cs = some x) :
    ∃ v0 v1 v2 v3 v4 v5 v6 v7 v8 v9 y0 y1 y2 y3 y4 k, cs = [v0, v1, v2, v3, v4, v5, v6, v7, v8, v9] ∧ fuel = k + 1 ∧ DataW.trod enc P w base spare held k f0.type [v0] = some y0 ∧ DataW.trod enc P w base spare held k f1.type [v1, v2, v3, v4, v5, v6] = some y1 ∧
      DataW.trod enc P w base spare held k f2.type [v7] = some y2 ∧ DataW.trod enc P w base spare held k f3.type [v8] = some y3 ∧ DataW.trod enc P w base spare held k f4.type [v9] = some y4 := by
  obtain ⟨xs, k, hk, _, hlen, hxl, hf⟩ := DataW.trod_struct he h
  rw [ce] at hlen
  obtain ⟨o0, o1, o2, o3, o4⟩ := o
  obtain ⟨c0, c1, c2, c3, c4⟩ := c
  match xs, hxl, cs, hlen with
  | [y0, y1, y2, y3, y4], _, [v0, v1, v2, v3, v4, v5, v6, v7, v8, v9], _ =>
    have g0 := hf 0 f0 rfl
    have g1 := hf 1 f1 rfl
    have g2 := hf 2 f2 rfl
    have g3 := hf 3 f3 rfl
    have g4 := hf 4 f4 rfl
    simp [o0, o1, o2, o3, o4, c0, c1, c2, c3, c4] at g0 g1 g2 g3 g4
    exact ⟨v0, v1, v2, v3, v4, v5, v6, v7, v8, v9, y0, y1, y2, y3, y4, k, rfl, hk, g0, g1, g2, g3, g4⟩
/-- A list of calls, out of its reading. -/
theorem ops_arg {W : World} (n : Nat) {v : Value} {y : DataW H × List MemPlace} (h : DataW.trod enc Try.prog W 0 (fun _ => true) true n 22 [v] = some y) :
    ∃ a len cap os, v = .slice a len cap ∧ IsOps n W a len os ∧ (∀ x ∈ os, opFits n x) ∧ len ≤ cap ∧ cap ≤ maxLen ∧ (a = none → cap = 0) := by
  rcases DataW.trod_slice Try.underlying22 h with ⟨hcs, _⟩ | ⟨a, len, cap, elems, rest, m, rfl, hcs, _, _, hl, hm, hlen, hel, _⟩
  · simp at hcs
    exact ⟨none, 0, 0, [], hcs, ⟨rfl, .inl rfl⟩, (fun x hx => by cases hx), Nat.le_refl _, by unfold maxLen; omega, fun _ => rfl⟩
  · simp at hcs
    have hsp0 : len ≠ 0 → a.spot = none := by
      intro h0
      have key := hel 0 (by omega)
      rw [show Try.prog.cellsOf 34 = 10 by kernel_rfl, List.getElem?_eq_getElem (by omega)] at key
      obtain ⟨cs, h1, _⟩ := Option.bind_eq_some_iff.1 key
      obtain ⟨_, hl6, hc⟩ := World.cells?_some h1
      have c0 := hc 0 (by omega)
      rw [List.getElem?_eq_getElem (by omega)] at c0
      have := World.cell?_spot c0
      simpa [Addr.add] using this
    have hall : ∀ i, ∃ x : DOp, i < len → (∃ aa an ac ka kn kc, a.spot = none ∧ OpAt (m + 1) W a.block (a.off + i * 10) x aa an ac ka kn kc) ∧ opFits (m + 1) x := by
      intro i
      by_cases hi : i < len
      · have key := hel i hi
        rw [show Try.prog.cellsOf 34 = 10 by kernel_rfl, List.getElem?_eq_getElem (by omega)] at key
        obtain ⟨cs, h1, h2⟩ := Option.bind_eq_some_iff.1 key
        obtain ⟨v0, v1, v2, v3, v4, v5, v6, v7, v8, v9, y0, y1, y2, y3, y4, k, rfl, rfl, t0, t1, t2, t3, t4⟩ := open_op Try.underlying34 (by kernel_rfl) ⟨rfl, rfl, rfl, rfl, rfl⟩ ⟨by kernel_rfl, by kernel_rfl, by kernel_rfl, by kernel_rfl, by kernel_rfl⟩ h2
        obtain ⟨_, _, hc⟩ := World.cells?_some h1
        obtain ⟨k0, rfl, w0⟩ := int_arg t0
        obtain ⟨x, a3, n3, c3, a5, n5, c5, e1, kx, sx, i3, i5, x3, x5, fx⟩ := node_arg t1
        obtain ⟨z7, rfl, w7⟩ := i64_arg t2
        obtain ⟨z8, rfl, w8⟩ := i64_arg t3
        obtain ⟨z9, rfl, w9⟩ := i64_arg t4
        simp only [List.cons.injEq, and_true] at e1
        obtain ⟨rfl, rfl, rfl, rfl, rfl, rfl⟩ := e1
        have c0 := hc 0 (by omega)
        have c1 := hc 1 (by omega)
        have c2 := hc 2 (by omega)
        have c3' := hc 3 (by omega)
        have c4 := hc 4 (by omega)
        have c5' := hc 5 (by omega)
        have c6 := hc 6 (by omega)
        have c7 := hc 7 (by omega)
        have c8 := hc 8 (by omega)
        have c9 := hc 9 (by omega)
        obtain ⟨b, off, sp⟩ := a
        obtain rfl : sp = none := hsp0 (by omega)
        rw [add_plain, add_plain] at c0 c1 c2 c3' c4 c5' c6 c7 c8 c9
        refine ⟨⟨k0, x, z7, z8, z9⟩, fun _ => ⟨⟨a3, n3, _, a5, n5, _, rfl, c0, ⟨c1, c2, c3', c4, c5', c6, i3, .inr fun _ _ => trivial, i5.deeper (by omega), x3, x5⟩, c7, c8, c9⟩, ?_⟩⟩
        obtain ⟨f1, f2, f3, f4, f5, f6⟩ := fx
        exact ⟨⟨f1, f2, f3, f4, f5, okL_deeper (by omega) i5.depth f6⟩, w0, kx, sx, w7, w8, w9⟩
      · exact ⟨⟨0, .mk 0 0 [] [] [] [], 0, 0, 0⟩, fun h => absurd h hi⟩
    obtain ⟨f, hf⟩ := Classical.axiomOfChoice hall
    refine ⟨some a, len, cap, (List.range len).map f, hcs, ⟨by simp, ?_⟩, ?_, hl, hm, fun e => (by cases e)⟩
    · by_cases h0 : len = 0
      · exact .inl h0
      · obtain ⟨⟨_, _, _, _, _, _, hsp, _⟩, _⟩ := hf 0 (by omega)
        obtain ⟨b, off, sp⟩ := a
        obtain rfl : sp = none := hsp
        refine .inr ⟨b, off, rfl, fun i x hi => ?_⟩
        rw [List.getElem?_map, Option.map_eq_some_iff] at hi
        obtain ⟨j, hj, rfl⟩ := hi
        have hjl : i < len := by
          have := (List.getElem?_eq_some_iff.1 hj).1
          simpa using this
        rw [List.getElem?_range hjl] at hj
        obtain rfl := Option.some.inj hj
        obtain ⟨aa, an, ac, ka, kn, kc, _, hx⟩ := (hf i hjl).1
        exact ⟨aa, an, ac, ka, kn, kc, hx⟩
    · intro x hx
      obtain ⟨i, hi, rfl⟩ := List.mem_map.1 hx
      exact (hf i (List.mem_range.1 hi)).2
end
end Go.Proofs.Ythbklcpjbeelhaa
namespace Go.Proofs.Ythbklcpjbeelhaa
open Go.ChangeShapes Go.WideShapes Go.ChangeAt Go.RowKit Go.Lib
set_option linter.unusedVariables false
set_option maxRecDepth 100000

theorem own : ownKnob Try.prog.godebug = none := by kernel_rfl
theorem laidOut : laidOutB Try.prog = true := by kernel_rfl
/-- Whatever world. -/
def AnyW (w : World) : Prop := True
theorem tabs_of_laid {W : World} {Q : Prop} (h : Q) : AnyW W := True.intro
/-- A world for the witness. -/
noncomputable def laidWorld (os : Os) : World := World.holding Try.prog os ⟨#[], #[], []⟩
theorem laid_met (os : Os) (args : Array Value) : laidMet Try.prog ([] : List (String × DataW Unit)) ((laidWorld os).forCall (fun _ _ => 0) ⟨#[], args, []⟩).memory :=
  laidMet_of_run' 8 (by kernel_rfl) (by kernel_rfl)
section
variable {H : Type} {enc : TypeId × Value → H}
/-- A node by value, out of its reading. -/
theorem node_val {W : World} {b0 D : Nat} {v : Value} {y : DataW H × List MemPlace} (hv : Value.okWide Try.prog W .any b0 32 v) (h : DataW.trod enc Try.prog W 0 (fun _ => true) true D 32 v.cells.toList = some y) :
    ∃ (x : Dom.N) (aa : Option Addr) (an ac : Nat) (ka : Option Addr) (kn kc : Nat), v = .agg #[.int .u8 x.kind, .int .u8 x.space, .string (bs x.name), .slice aa an ac, .string (bs x.text), .slice ka kn kc] ∧ IsA W aa an x.atts ∧ IsN (fun _ => True) D W ka kn x.kids ∧ (aa = none → ac = 0) ∧ (ka = none → kc = 0) ∧ nodeFits D x := by
  obtain ⟨cs, rfl, _⟩ := okWide_struct Try.underlying32 hv
  obtain ⟨x, aa, an, ac, ka, kn, kc, e, _, _, i1, i2, i3, i4, i5⟩ := node_arg h
  refine ⟨x, aa, an, ac, ka, kn, kc, ?_, i1, i2, i3, i4, i5⟩
  have e2 : cs.toList = _ := e
  rw [show cs = cs.toList.toArray by simp, e2]
end
theorem any_keeps : KeepsW AnyW := fun _ _ _ _ => True.intro
theorem any_domC : DomC AnyW DomK := domK_all
theorem any_known : DomKnownC AnyW := fun w _ => pknown_any w
theorem any_same : DomSameC AnyW := fun d S1 S2 ns ms a1 n1 c1 a2 n2 c2 w _ h g hw1 hw2 => psame_any d S1 S2 ns ms a1 n1 c1 a2 n2 c2 w h g (by omega) (by omega)
end Go.Proofs.Ythbklcpjbeelhaa
namespace Go.Proofs.Ythbklcpjbeelhaa
open Go.RowKit Go.Lib
set_option maxRecDepth 100000
set_option linter.unusedVariables false

/-- A node in a block of its own, as a list of one. -/
theorem isN_one {d : Nat} {w : World} {x : Dom.N} {aa : Option Addr} {an ac : Nat} {ka : Option Addr} {kn kc : Nat} (hA : IsA w aa an x.atts) (hK : IsN (fun _ => True) d w ka kn x.kids) (ha : aa = none → ac = 0) (hk : ka = none → kc = 0) :
    IsN (fun _ => True) (d + 1) (w.alloc (.cells #[.int .u8 x.kind, .int .u8 x.space, .string (bs x.name), .slice aa an ac, .string (bs x.text), .slice ka kn kc] 32)) (some ⟨w.heap.size, 0, none⟩) 1 [x] := by
  have al := (Below.refl w.heap.size w).alloc (Nat.le_refl _) (.cells #[.int .u8 x.kind, .int .u8 x.space, .string (bs x.name), .slice aa an ac, .string (bs x.text), .slice ka kn kc] 32)
  have N := BlkW.new w #[.int .u8 x.kind, .int .u8 x.space, .string (bs x.name), .slice aa an ac, .string (bs x.text), .slice ka kn kc] 32
  refine ⟨rfl, .inr ⟨_, 0, rfl, trivial, fun i y hy => ?_⟩⟩
  have hi : i = 0 := by have := (List.getElem?_eq_some_iff.1 hy).1; simp at this; exact this
  subst hi
  injection hy with hy
  subst hy
  exact ⟨aa, an, ac, ka, kn, kc, N.cell 0, N.cell 1, N.cell 2, N.cell 3, N.cell 4, N.cell 5, hA.below al, .inr fun _ _ => trivial, hK.below al, ha, hk⟩
/-- What calls weigh. -/
def heavyW (d : Nat) (w : Nat) (os : List DOp) : Nat := os.foldl (fun w o => if w ≤ 600 then Dom.wtL 600 (d + 1) w [o.n] else w) w
theorem heavyW_snoc (d w : Nat) (os : List DOp) (x : DOp) : heavyW d w (os ++ [x]) = if heavyW d w os ≤ 600 then Dom.wtL 600 (d + 1) (heavyW d w os) [x.n] else heavyW d w os := by
  unfold heavyW
  rw [List.foldl_append]
  rfl
theorem heavyW_over (d : Nat) : ∀ (ps : List DOp) (w : Nat), ¬ w ≤ 600 → heavyW d w ps = w
  | [], w, _ => rfl
  | x :: r, w, h => by
    show heavyW d (if w ≤ 600 then Dom.wtL 600 (d + 1) w [x.n] else w) r = w
    rw [if_neg h]
    exact heavyW_over d r w h
theorem heavyW_stop (d w : Nat) (os ps : List DOp) (h : ¬ heavyW d w os ≤ 600) : heavyW d w (os ++ ps) = heavyW d w os := by
  have e : heavyW d w (os ++ ps) = heavyW d (heavyW d w os) ps := by
    unfold heavyW
    rw [List.foldl_append]
  rw [e, heavyW_over d ps _ h]
theorem heavyW_le (d : Nat) : ∀ (os : List DOp) (w : Nat), w ≤ heavyW d w os
  | [], w => Nat.le_refl _
  | x :: r, w => by
    refine Nat.le_trans ?_ (heavyW_le d r _)
    show w ≤ if w ≤ 600 then Dom.wtL 600 (d + 1) w [x.n] else w
    split
    · by_cases h : Dom.wtL 600 (d + 1) w [x.n] ≤ 600
      · rw [Dom.wtL_sum _ _ _ _ h]
        exact Nat.le_add_right _ _
      · omega
    · exact Nat.le_refl _
/-- Calls that are not too heavy: each node is light. -/
theorem heavyW_light {d : Nat} : ∀ {os : List DOp} {w : Nat}, heavyW d w os ≤ 600 → (os.map fun o => Dom.sumW (d + 1) [o.n]).sum + w ≤ 600
  | [], w, h => by
    have h : w ≤ 600 := h
    show 0 + w ≤ 600
    omega
  | x :: r, w, h => by
    have h0 : heavyW d (if w ≤ 600 then Dom.wtL 600 (d + 1) w [x.n] else w) r ≤ 600 := h
    have h1 := heavyW_light h0
    have h2 := heavyW_le d r (if w ≤ 600 then Dom.wtL 600 (d + 1) w [x.n] else w)
    by_cases hw : w ≤ 600
    · rw [if_pos hw] at h1 h2 h0
      have h3 := Dom.wtL_sum 600 (d + 1) w [x.n] (by omega)
      rw [h3] at h1
      rw [List.map_cons, List.sum_cons]
      omega
    · rw [if_neg hw] at h2 h0
      omega
set_option maxHeartbeats 8000000 in
theorem heavy_any (d : Nat) (os : List DOp) (a : Option Addr) (n c : Nat) (w : World) (h : IsOps d w a n os) (hf : ∀ x ∈ os, opFits d x) (hn : n ≤ 9223372036854775807) :
    Calls Try.prog 7 #[.slice a n c] w fun e w' => e = .returned (.bool (decide (600 < heavyW d n os) || decide (150 < n))) ∧ Below w.heap.size w w' := by
  have HL := hid h.1
  have HH := hid h
  have HF := hid hf
  obtain ⟨R, hR⟩ : ∃ R, heavyW d n os = R := ⟨_, rfl⟩
  rw [hR]
  have HR := hid hR
  have H0 := hid (show heavyW d n (os.take 0) = n from rfl)
  clear h hf hR
  go_enter Try.func7, Try.ntmps7
  go_wp2
  go_loopg [3, 4] n (fun g wv iv wr => ∃ (j W : Nat), j + g = n ∧ iv = .int .i64 j ∧ wv = .int .i64 W ∧ Hid (heavyW d n (os.take j) = W) ∧ Hid (Below w.heap.size w wr))
  case atStart => exact ⟨0, n, by omega, rfl, rfl, H0, hid (Below.refl _ _)⟩
  case round =>
    obtain ⟨j, W, hj, rfl, rfl, hW, hB⟩ := hrel
    have fin : ∀ (hend : ¬ j < n ∨ 600 < W), W = R := fun hend => by
      have h1 := hW.out
      have h2 := HR.out
      rcases hend with g | g
      · rw [List.take_of_length_le (by rw [HL.out]; omega)] at h1
        omega
      · have h3 := heavyW_stop d n (os.take j) (os.drop j) (by rw [h1]; omega)
        rw [List.take_append_drop] at h3
        omega
    have tail : ∀ (hend : W = R), True := fun _ => trivial
    by_cases hlt : j < n
    · have d1 : decide (j < n) = true := decide_eq_true hlt
      have hltI : (j : Int) < (n : Int) := by omega
      by_cases hw : W ≤ 600
      · have d2 : decide ((W : Int) ≤ 600) = true := by simp; omega
        have d2n : decide (W ≤ 600) = true := decide_eq_true hw
        obtain ⟨x, hx⟩ : ∃ x, os[j]? = some x := ⟨_, List.getElem?_eq_getElem (by rw [HL.out]; exact hlt)⟩
        obtain ⟨b, off, rfl, hat⟩ := HH.out.2.resolve_left (by omega)
        obtain ⟨aa, an, ac, ka, kn, kc, X⟩ := hat j x hx
        have XB := X.below hB.out
        obtain ⟨f0, f1, f2, f3, f4, f5⟩ := (HF.out x (List.mem_of_getElem? hx)).1
        have Y := isN_one XB.nd.atts XB.nd.kids XB.nd.anil XB.nd.knil
        have HWT := hid (weigh_any (d + 1) (fun _ => True) [x.n] (some ⟨wr.heap.size, 0, none⟩) 1 1 W 600 _ Y (show Dom.okL 9223372036854775807 (d + 1) [x.n] from fun y hy => by
          obtain rfl := List.mem_singleton.1 hy
          exact ⟨f0, f1, f2, f3, f4, f5⟩) (by omega) (by omega))
        have HS : Hid (heavyW d n (os.take (j + 1)) = Dom.wtL 600 (d + 1) W [x.n]) := hid (by
          rw [List.take_add_one, hx]
          show heavyW d n (os.take j ++ [x]) = _
          rw [heavyW_snoc, hW.out, if_pos hw])
        obtain ⟨W2, hW2⟩ : ∃ W2, Dom.wtL 600 (d + 1) W [x.n] = W2 := ⟨_, rfl⟩
        rw [hW2] at HS HWT
        have x0 := XB.nd.c0
        have x1 := XB.nd.c1
        have x2 := XB.nd.c2
        have x3 := XB.nd.c3
        have x4 := XB.nd.c4
        have x5 := XB.nd.c5
        obtain ⟨NM, hNM⟩ : ∃ NM, bs x.n.name = NM := ⟨_, rfl⟩
        obtain ⟨TX, hTX⟩ : ∃ TX, bs x.n.text = TX := ⟨_, rfl⟩
        obtain ⟨K, hK⟩ : ∃ K, x.n.kind = K := ⟨_, rfl⟩
        obtain ⟨SP, hSP⟩ : ∃ SP, x.n.space = SP := ⟨_, rfl⟩
        rw [hNM, hTX, hK, hSP] at HWT
        rw [hK] at x0
        rw [hSP] at x1
        rw [hNM] at x2
        rw [hTX] at x4
        have al := hid (hB.out.alloc hB.out.size (.cells #[.int .u8 K, .int .u8 SP, .string NM, .slice aa an ac, .string TX, .slice ka kn kc] 32))
        clear fin tail X XB hat Y hW2 hNM hTX hK hSP hx f0 f1 f2 f3 f4 f5
        go_wp2_with fail
        refine (HWT.out).mono ?_
        rintro e w2 ⟨rfl, b2⟩
        have HB2 := hid (al.out.trans (b2.mono al.out.size))
        clear b2
        go_wp2
        go_roundg (n - (j + 1))
        case measure => omega
        case rel => exact ⟨j + 1, W2, by omega, by go_num, by go_num, HS, HB2⟩
      · have d2 : decide ((W : Int) ≤ 600) = false := by simp; omega
        have d2n : decide (W ≤ 600) = false := decide_eq_false hw
        obtain rfl := fin (.inr (by omega))
        have d3 : decide ((600 : Int) < (W : Int)) = true := by simp; omega
        have d3n : decide (600 < W) = true := decide_eq_true (by omega)
        clear fin tail
        go_wp2
        go_ret
        refine ⟨?_, hB.out⟩
        first | rfl | (rw [d3n]; rfl)
    · have d1 : decide (j < n) = false := decide_eq_false hlt
      have hltI : ¬ (j : Int) < (n : Int) := by omega
      obtain rfl := fin (.inl hlt)
      clear fin tail
      by_cases hw : 600 < W
      · have d3 : decide ((600 : Int) < (W : Int)) = true := by simp; omega
        have d3n : decide (600 < W) = true := decide_eq_true hw
        go_wp2
        go_ret
        refine ⟨?_, hB.out⟩
        first | rfl | (rw [d3n]; rfl)
      · have d3 : decide ((600 : Int) < (W : Int)) = false := by simp; omega
        have d3n : decide (600 < W) = false := decide_eq_false hw
        go_wp2
        go_ret
        refine ⟨?_, hB.out⟩
        show Ending.returned (.bool (decide ((150 : Int) < (n : Int)))) = _
        rw [show decide ((150 : Int) < (n : Int)) = decide (150 < n) from decide_eq_decide.2 (by omega)]
end Go.Proofs.Ythbklcpjbeelhaa
