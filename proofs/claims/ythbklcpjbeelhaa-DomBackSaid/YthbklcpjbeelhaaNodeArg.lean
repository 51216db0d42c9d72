/- Nodes in memory: a list of structs of six cells, attributes and kids in lists of their own. The reference's tree in memory, as its calls read it. A list of nodes that came in, as the walks take it. -/
import Derived.Test.YthbklcpjbeelhaaNodePl
import Derived.Test.YthbklcpjbeelhaaAppT
import Derived.Test.YthbklcpjbeelhaaTreeBack
import Derived.Test.YthbklcpjbeelhaaWld
import Derived.Deep.LoopGhost
import Derived.IntWalk
import Derived.ProofKit
import Derived.OpenShut
import Derived.ChangeOld
import Derived.Deep.SlicePairs
import Derived.Lib.SmallJoins
namespace Go.Proofs.Ythbklcpjbeelhaa
open Go.RowKit Go.Lib
set_option maxRecDepth 100000
set_option linter.unusedVariables false

/-- A list of pairs whose block, if it has any, is one of S. -/
def InS (S : Nat → Prop) (a : Option Addr) (n : Nat) : Prop := n = 0 ∨ ∀ p, a = some p → S p.block
theorem isA_in {S : Nat → Prop} {w w' : World} {ad : Option Addr} {n : Nat} {ls : List (List UInt8 × List UInt8)} (h : IsA w ad n ls) (hs : InS S ad n) (hk : ∀ k, S k → w'.heap[k]? = w.heap[k]?) : IsA w' ad n ls := by
  refine ⟨h.1, ?_⟩
  rcases hs with h0 | hs
  · exact .inl h0
  refine h.2.elim .inl fun ⟨b, off, e, hat⟩ => .inr ⟨b, off, e, fun i l hi => ?_⟩
  obtain ⟨h1, h2⟩ := hat i l hi
  have hb := hk _ (hs _ e)
  exact ⟨(World.cell?_of_block (a := ⟨b, off + i * 2, none⟩) hb).trans h1, (World.cell?_of_block (a := ⟨b, off + i * 2 + 1, none⟩) hb).trans h2⟩
/-- A node's cells from off on; L says what its kids' list is. -/
structure NodeAt (S : Nat → Prop) (L : Option Addr → Nat → List Dom.N → Prop) (w : World) (b off : Nat) (x : Dom.N) (aa : Option Addr) (an ac : Nat) (ka : Option Addr) (kn kc : Nat) : Prop where
  c0 : w.cell? ⟨b, off, none⟩ = some (.int .u8 x.kind)
  c1 : w.cell? ⟨b, off + 1, none⟩ = some (.int .u8 x.space)
  c2 : w.cell? ⟨b, off + 2, none⟩ = some (.string (bs x.name))
  c3 : w.cell? ⟨b, off + 3, none⟩ = some (.slice aa an ac)
  c4 : w.cell? ⟨b, off + 4, none⟩ = some (.string (bs x.text))
  c5 : w.cell? ⟨b, off + 5, none⟩ = some (.slice ka kn kc)
  atts : IsA w aa an x.atts
  inS : InS S aa an
  kids : L ka kn x.kids
  anil : aa = none → ac = 0
  knil : ka = none → kc = 0
/-- A list of nodes that stand at most d deep in one another, in blocks of S. -/
def IsN (S : Nat → Prop) : Nat → World → Option Addr → Nat → List Dom.N → Prop
  | 0, _, _, n, ns => ns = [] ∧ n = 0
  | d + 1, w, a, n, ns => ns.length = n ∧ (n = 0 ∨ ∃ b off, a = some ⟨b, off, none⟩ ∧ S b ∧ ∀ (i : Nat) x, ns[i]? = some x → ∃ aa an ac ka kn kc, NodeAt S (IsN S d w) w b (off + i * 6) x aa an ac ka kn kc)
theorem IsN.len {S : Nat → Prop} : ∀ {d : Nat} {w : World} {a : Option Addr} {n : Nat} {ns : List Dom.N}, IsN S d w a n ns → ns.length = n
  | 0, _, _, _, _, h => by rw [h.1, h.2]; rfl
  | _ + 1, _, _, _, _, h => h.1
theorem IsN.nil (S : Nat → Prop) (d : Nat) (w : World) (a : Option Addr) : IsN S d w a 0 [] := by
  cases d with
  | zero => exact ⟨rfl, rfl⟩
  | succ d => exact ⟨rfl, .inl rfl⟩
/-- It stands where its blocks stand as they stood. -/
theorem IsN.keep {S : Nat → Prop} : ∀ {d : Nat} {w w' : World} {a : Option Addr} {n : Nat} {ns : List Dom.N}, IsN S d w a n ns → (∀ k, S k → w'.heap[k]? = w.heap[k]?) → IsN S d w' a n ns
  | 0, _, _, _, _, _, h, _ => h
  | d + 1, w, w', a, n, ns, h, hk => by
    refine ⟨h.1, h.2.elim .inl fun ⟨b, off, e, hb, hat⟩ => .inr ⟨b, off, e, hb, fun i x hi => ?_⟩⟩
    obtain ⟨aa, an, ac, ka, kn, kc, hx⟩ := hat i x hi
    have up : ∀ (o : Nat) {v : Value}, w.cell? ⟨b, o, none⟩ = some v → w'.cell? ⟨b, o, none⟩ = some v := fun o _ hc => (World.cell?_of_block (a := ⟨b, o, none⟩) (hk b hb)).trans hc
    exact ⟨aa, an, ac, ka, kn, kc, up _ hx.c0, up _ hx.c1, up _ hx.c2, up _ hx.c3, up _ hx.c4, up _ hx.c5, isA_in hx.atts hx.inS hk, hx.inS, hx.kids.keep hk, hx.anil, hx.knil⟩
theorem IsN.sub {S S' : Nat → Prop} (hs : ∀ k, S k → S' k) : ∀ {d : Nat} {w : World} {a : Option Addr} {n : Nat} {ns : List Dom.N}, IsN S d w a n ns → IsN S' d w a n ns
  | 0, _, _, _, _, h => h
  | d + 1, w, a, n, ns, h => by
    refine ⟨h.1, h.2.elim .inl fun ⟨b, off, e, hb, hat⟩ => .inr ⟨b, off, e, hs b hb, fun i x hi => ?_⟩⟩
    obtain ⟨aa, an, ac, ka, kn, kc, hx⟩ := hat i x hi
    exact ⟨aa, an, ac, ka, kn, kc, hx.c0, hx.c1, hx.c2, hx.c3, hx.c4, hx.c5, hx.atts, hx.inS.imp id (fun h p hp => hs _ (h p hp)), hx.kids.sub hs, hx.anil, hx.knil⟩
theorem IsN.deeper {S : Nat → Prop} : ∀ {d e : Nat} {w : World} {a : Option Addr} {n : Nat} {ns : List Dom.N}, d ≤ e → IsN S d w a n ns → IsN S e w a n ns
  | 0, e, w, a, n, ns, _, h => by
    obtain ⟨rfl, rfl⟩ := h
    exact IsN.nil S e w a
  | d + 1, 0, _, _, _, _, h, _ => by omega
  | d + 1, e + 1, w, a, n, ns, hd, h => by
    refine ⟨h.1, h.2.elim .inl fun ⟨b, off, e', hb, hat⟩ => .inr ⟨b, off, e', hb, fun i x hi => ?_⟩⟩
    obtain ⟨aa, an, ac, ka, kn, kc, hx⟩ := hat i x hi
    exact ⟨aa, an, ac, ka, kn, kc, hx.c0, hx.c1, hx.c2, hx.c3, hx.c4, hx.c5, hx.atts, hx.inS, hx.kids.deeper (by omega), hx.anil, hx.knil⟩
/-- The nodes of a list that is not empty. -/
theorem IsN.at {S : Nat → Prop} {d : Nat} {w : World} {a : Option Addr} {n : Nat} {ns : List Dom.N} (h : IsN S (d + 1) w a n ns) (hn : n ≠ 0) : ∃ b off, a = some ⟨b, off, none⟩ ∧ S b ∧ ∀ (i : Nat) x, ns[i]? = some x → ∃ aa an ac ka kn kc, NodeAt S (IsN S d w) w b (off + i * 6) x aa an ac ka kn kc := h.2.resolve_left hn
/-- It stands above a world. -/
theorem IsN.up {d : Nat} {w w' : World} {a : Option Addr} {n H : Nat} {ns : List Dom.N} (h : IsN (fun k => k < H) d w a n ns) (hb : Below H w w') : IsN (fun k => k < H) d w' a n ns := h.keep fun k hk => hb.block k hk
theorem IsN.below {S : Nat → Prop} : ∀ {d : Nat} {w w' : World} {a : Option Addr} {n : Nat} {ns : List Dom.N}, IsN S d w a n ns → Below w.heap.size w w' → IsN S d w' a n ns
  | 0, _, _, _, _, _, h, _ => h
  | d + 1, w, w', a, n, ns, h, hb => by
    refine ⟨h.1, h.2.elim .inl fun ⟨b, off, e, hS, hat⟩ => .inr ⟨b, off, e, hS, fun i x hi => ?_⟩⟩
    obtain ⟨aa, an, ac, ka, kn, kc, hx⟩ := hat i x hi
    have up : ∀ {p : Addr} {v : Value}, w.cell? p = some v → w'.cell? p = some v := fun hc => (hb.cell (World.block_lt_of_cell? _ _ hc)).trans hc
    exact ⟨aa, an, ac, ka, kn, kc, up hx.c0, up hx.c1, up hx.c2, up hx.c3, up hx.c4, up hx.c5, hx.atts.below hb, hx.inS, hx.kids.below hb, hx.anil, hx.knil⟩
theorem isA_lt {S : Nat → Prop} {w : World} {ad : Option Addr} {n : Nat} {ls : List (List UInt8 × List UInt8)} (h : IsA w ad n ls) (hs : InS S ad n) : InS (fun k => S k ∧ k < w.heap.size) ad n := by
  rcases hs with h0 | hs
  · exact .inl h0
  by_cases hn : n = 0
  · exact .inl hn
  refine .inr fun p hp => ⟨hs p hp, ?_⟩
  obtain ⟨b, off, e, hat⟩ := h.2.resolve_left hn
  obtain rfl := Option.some.inj (e.symm.trans hp)
  obtain ⟨l, hl⟩ : ∃ l, ls[0]? = some l := ⟨_, List.getElem?_eq_getElem (by have := h.1; omega)⟩
  exact World.block_lt_of_cell? _ _ (hat 0 l hl).1
/-- Its blocks are there. -/
theorem IsN.lt {S : Nat → Prop} : ∀ {d : Nat} {w : World} {a : Option Addr} {n : Nat} {ns : List Dom.N}, IsN S d w a n ns → IsN (fun k => S k ∧ k < w.heap.size) d w a n ns
  | 0, _, _, _, _, h => h
  | d + 1, w, a, n, ns, h => by
    refine ⟨h.1, ?_⟩
    by_cases hn : n = 0
    · exact .inl hn
    obtain ⟨b, off, e, hS, hat⟩ := h.2.resolve_left hn
    obtain ⟨x0, hx0⟩ : ∃ x, ns[0]? = some x := ⟨_, List.getElem?_eq_getElem (by have := h.1; omega)⟩
    obtain ⟨_, _, _, _, _, _, h0⟩ := hat 0 x0 hx0
    refine .inr ⟨b, off, e, ⟨hS, World.block_lt_of_cell? _ _ h0.c0⟩, fun i x hi => ?_⟩
    obtain ⟨aa, an, ac, ka, kn, kc, hx⟩ := hat i x hi
    exact ⟨aa, an, ac, ka, kn, kc, hx.c0, hx.c1, hx.c2, hx.c3, hx.c4, hx.c5, hx.atts, isA_lt hx.atts hx.inS, hx.kids.lt, hx.anil, hx.knil⟩
end Go.Proofs.Ythbklcpjbeelhaa
namespace Go.Proofs.Ythbklcpjbeelhaa
open Go.RowKit Go.Lib
set_option maxRecDepth 100000
set_option linter.unusedVariables false

/-- A list of numbers in memory. -/
def IsZ (w : World) (a : Option Addr) (n : Nat) (l : List Nat) : Prop := l.length = n ∧ (n = 0 ∨ ∃ b off, a = some ⟨b, off, none⟩ ∧ ∀ (i x : Nat), l[i]? = some x → w.cell? ⟨b, off + i, none⟩ = some (.int .i64 (x : Nat)))
/-- One of the tree: its eight cells from off on. -/
structure TreeAt (w : World) (b off : Nat) (x : Dom.TN) (aa : Option Addr) (an ac : Nat) (ka : Option Addr) (kn kc : Nat) : Prop where
  c0 : w.cell? ⟨b, off, none⟩ = some (.int .u8 x.nd.kind)
  c1 : w.cell? ⟨b, off + 1, none⟩ = some (.int .u8 x.nd.space)
  c2 : w.cell? ⟨b, off + 2, none⟩ = some (.string (bs x.nd.name))
  c3 : w.cell? ⟨b, off + 3, none⟩ = some (.slice aa an ac)
  c4 : w.cell? ⟨b, off + 4, none⟩ = some (.string (bs x.nd.text))
  c5 : w.cell? ⟨b, off + 5, none⟩ = some (.slice none 0 0)
  c6 : w.cell? ⟨b, off + 6, none⟩ = some (.int .i64 x.par)
  c7 : w.cell? ⟨b, off + 7, none⟩ = some (.slice ka kn kc)
  atts : IsA w aa an x.nd.atts
  kids : IsZ w ka kn x.kids
  kle : kn ≤ kc
  anil : aa = none → ac = 0
  knil : ka = none → kc = 0
/-- The tree whose pointer goes to block R, its nodes from block g on. -/
structure TreeR (w : World) (R g cap : Nat) (t : Dom.T) : Prop where
  top : w.cell? ⟨R, 0, none⟩ = some (.slice (some ⟨g, 0, none⟩) t.length cap)
  at_ : ∀ (i : Nat) x, t[i]? = some x → ∃ aa an ac ka kn kc, TreeAt w g (i * 8) x aa an ac ka kn kc
  few : t.length ≤ 1000000
theorem node_get {t : Dom.T} {i : Nat} (h : i < t.length) : t[i]? = some (Dom.nodeAt t i) := by
  unfold Dom.nodeAt
  rw [List.getD_eq_getElem?_getD, List.getElem?_eq_getElem h]
  rfl
set_option maxHeartbeats 2000000 in
theorem there_any (w : World) (R g cap : Nat) (t : Dom.T) (i : Int) (h : TreeR w R g cap t) :
    Calls Try.prog 41 #[.pointer (some ⟨R, 0, none⟩), .int .i64 i] w fun e w' => e = .returned (.bool (decide (Dom.there t i))) ∧ w' = w := by
  have h1 := h.top
  have h2 := h.few
  obtain ⟨n, hn⟩ : ∃ n, List.length t = n := ⟨_, rfl⟩
  have hth : Dom.there t i ↔ (0 ≤ i ∧ i < (n : Int)) := by rw [← hn]; exact Iff.rfl
  rw [hn] at h1 h2
  clear h hn
  by_cases g1 : 0 ≤ i
  · have d1 : decide (0 ≤ i) = true := decide_eq_true g1
    by_cases g2 : i < n
    · have d2 : decide (i < (n : Int)) = true := decide_eq_true g2
      have hR : decide (Dom.there t i) = true := decide_eq_true (hth.2 ⟨g1, g2⟩)
      rw [hR]
      clear hR hth
      go_enter Try.func41, Try.ntmps41
      go_wp2
      go_ret
      exact ⟨rfl, rfl⟩
    · have d2 : decide (i < (n : Int)) = false := decide_eq_false g2
      have hR : decide (Dom.there t i) = false := decide_eq_false fun h => g2 (hth.1 h).2
      rw [hR]
      clear hR hth
      go_enter Try.func41, Try.ntmps41
      go_wp2
      go_ret
      exact ⟨rfl, rfl⟩
  · have d1 : decide (0 ≤ i) = false := decide_eq_false g1
    have hR : decide (Dom.there t i) = false := decide_eq_false fun h => g1 (hth.1 h).1
    rw [hR]
    clear hR hth
    go_enter Try.func41, Try.ntmps41
    go_wp2
    go_ret
    exact ⟨rfl, rfl⟩
set_option maxHeartbeats 4000000 in
theorem rparent_any (w : World) (R g cap : Nat) (t : Dom.T) (i : Int) (h : TreeR w R g cap t) :
    Calls Try.prog 51 #[.pointer (some ⟨R, 0, none⟩), .int .i64 i] w fun e w' => e = .returned (.int .i64 (Dom.parentT t i)) ∧ w' = w := by
  have h1 := h.top
  have h2 := h.few
  have HT := hid (there_any w R g cap t i h)
  unfold Dom.parentT
  by_cases g1 : Dom.there t i
  · rw [if_pos g1]
    have hR : decide (Dom.there t i) = true := decide_eq_true g1
    rw [hR] at HT
    obtain ⟨i1, i2⟩ := g1
    obtain ⟨aa, an, ac, ka, kn, kc, X⟩ := h.at_ i.toNat _ (node_get (by omega))
    have x6 := X.c6
    change w.cell? ⟨g, i.toNat * 8 + 6, none⟩ = some (.int .i64 (Dom.parAt t i.toNat)) at x6
    obtain ⟨P, hP⟩ : ∃ P, Dom.parAt t i.toNat = P := ⟨_, rfl⟩
    rw [hP] at x6 ⊢
    obtain ⟨n, hn⟩ : ∃ n, List.length t = n := ⟨_, rfl⟩
    rw [hn] at h1 h2 i2
    clear X h hn hR hP
    have hlt : i.toNat < n := by omega
    go_enter Try.func51, Try.ntmps51
    go_wp2_with fail
    refine (HT.out).mono ?_
    rintro e w1 ⟨rfl, rfl⟩
    go_wp2
    go_ret
    exact ⟨rfl, rfl⟩
  · rw [if_neg g1]
    have hR : decide (Dom.there t i) = false := decide_eq_false g1
    rw [hR] at HT
    clear h
    go_enter Try.func51, Try.ntmps51
    go_wp2_with fail
    refine (HT.out).mono ?_
    rintro e w1 ⟨rfl, rfl⟩
    go_wp2
    go_ret
    exact ⟨rfl, rfl⟩
end Go.Proofs.Ythbklcpjbeelhaa
namespace Go.Proofs.Ythbklcpjbeelhaa
open Go.ChangeShapes Go.WideShapes Go.ChangeAt Go.RowKit Go.Lib Go.Deep Go.Joins
set_option maxRecDepth 100000
set_option linter.unusedVariables false

section
variable {H : Type} {enc : TypeId × Value → H}
/-- A struct of six cells, opened. -/
theorem open_six {P : Program} {w : World} {base : Nat} {spare : Nat → Bool} {held : Bool} {e : TypeId} {f0 f1 f2 f3 f4 f5 : Field} {fuel : Nat} {cs : List Value} {x : DataW H × List MemPlace} (he : P.underlying e = some (.struct #[f0, f1, f2, f3, f4, f5]))
    (ce : P.cellsOf e = 6) (o : f0.offset = 0 ∧ f1.offset = 1 ∧ f2.offset = 2 ∧ f3.offset = 3 ∧ f4.offset = 4 ∧ f5.offset = 5) (c : P.cellsOf f0.type = 1 ∧ P.cellsOf f1.type = 1 ∧ P.cellsOf f2.type = 1 ∧ P.cellsOf f3.type = 1 ∧ P.cellsOf f4.type = 1 ∧ P.cellsOf f5.type = 1)
    (h : DataW.trod enc P w base spare held fuel e cs = some x) :
    ∃ v0 v1 v2 v3 v4 v5 y0 y1 y2 y3 y4 y5 k, cs = [v0, v1, v2, v3, v4, v5] ∧ fuel = k + 1 ∧ DataW.trod enc P w base spare held k f0.type [v0] = some y0 ∧ DataW.trod enc P w base spare held k f1.type [v1] = some y1 ∧ DataW.trod enc P w base spare held k f2.type [v2] = some y2 ∧
      DataW.trod enc P w base spare held k f3.type [v3] = some y3 ∧ DataW.trod enc P w base spare held k f4.type [v4] = some y4 ∧ DataW.trod enc P w base spare held k f5.type [v5] = some y5 := by
  obtain ⟨xs, k, hk, _, hlen, hxl, hf⟩ := DataW.trod_struct he h
  rw [ce] at hlen
  obtain ⟨o0, o1, o2, o3, o4, o5⟩ := o
  obtain ⟨c0, c1, c2, c3, c4, c5⟩ := c
  match xs, hxl, cs, hlen with
  | [y0, y1, y2, y3, y4, y5], _, [v0, v1, v2, v3, v4, v5], _ =>
    have g0 := hf 0 f0 rfl
    have g1 := hf 1 f1 rfl
    have g2 := hf 2 f2 rfl
    have g3 := hf 3 f3 rfl
    have g4 := hf 4 f4 rfl
    have g5 := hf 5 f5 rfl
    simp [o0, o1, o2, o3, o4, o5, c0, c1, c2, c3, c4, c5] at g0 g1 g2 g3 g4 g5
    exact ⟨v0, v1, v2, v3, v4, v5, y0, y1, y2, y3, y4, y5, k, rfl, hk, g0, g1, g2, g3, g4, g5⟩
/-- A list of attributes, out of its reading. -/
theorem attrs_arg {W : World} {n : Nat} {v : Value} {y : DataW H × List MemPlace} (h : DataW.trod enc Try.prog W 0 (fun _ => true) true n 29 [v] = some y) :
    ∃ a len cap ls, v = .slice a len cap ∧ IsA W a len ls ∧ len ≤ cap ∧ cap ≤ maxLen ∧ (a = none → cap = 0) ∧ ∀ x ∈ ls, x.1.length ≤ maxLen ∧ x.2.length ≤ maxLen := by
  rcases open_slice_pairs Try.underlying29 Try.underlying67 (by kernel_rfl) rfl rfl (by kernel_rfl) (by kernel_rfl) h with ⟨hcs, _⟩ | ⟨x, len, cap, m, k, V0, V1, D0, D1, P0, P1, hcs, _, hl, hm, hmm, _, hcell⟩
  · simp at hcs
    exact ⟨none, 0, 0, [], hcs, ⟨rfl, .inl rfl⟩, Nat.le_refl _, by unfold maxLen; omega, fun _ => rfl, fun l hl => (by cases hl)⟩
  · simp at hcs
    have hml : len ≤ m := by rw [hmm]; simp; exact hl
    have hall : ∀ i, ∃ z : List UInt8 × List UInt8, i < len → W.cell? (x.add (i * 2)) = some (.string (bs z.1)) ∧ W.cell? (x.add (i * 2 + 1)) = some (.string (bs z.2)) ∧ z.1.length ≤ maxLen ∧ z.2.length ≤ maxLen := by
      intro i
      by_cases hi : i < len
      · obtain ⟨h0, h1, t0, t1⟩ := hcell i (by omega)
        obtain ⟨s0, e0, _, z0⟩ := DataW.trod_string Try.underlying9 t0
        obtain ⟨s1, e1, _, z1⟩ := DataW.trod_string Try.underlying9 t1
        simp at e0 e1
        refine ⟨(s0.data.toList, s1.data.toList), fun _ => ⟨?_, ?_, ?_, ?_⟩⟩
        · rw [h0, e0]; rfl
        · rw [h1, e1]; rfl
        · show s0.data.toList.length ≤ _; rw [size_list]; exact z0
        · show s1.data.toList.length ≤ _; rw [size_list]; exact z1
      · exact ⟨([], []), fun h => absurd h hi⟩
    obtain ⟨f, hf⟩ := Classical.axiomOfChoice hall
    refine ⟨some x, len, cap, (List.range len).map f, hcs, ⟨by simp, ?_⟩, hl, hm, fun e => (by cases e), ?_⟩
    · by_cases h0 : len = 0
      · exact .inl h0
      · obtain ⟨b, off, sp⟩ := x
        have hx0 := (hf 0 (by omega)).1
        have : sp = none := by simpa [Addr.add] using World.cell?_spot hx0
        subst this
        refine .inr ⟨b, off, rfl, fun i z hi => ?_⟩
        rw [List.getElem?_map, Option.map_eq_some_iff] at hi
        obtain ⟨j, hj, rfl⟩ := hi
        have hjl : i < len := by
          have := (List.getElem?_eq_some_iff.1 hj).1
          simpa using this
        rw [List.getElem?_range hjl] at hj
        obtain rfl := Option.some.inj hj
        obtain ⟨g0, g1, _, _⟩ := hf i hjl
        rw [add_plain] at g0 g1
        exact ⟨g0, by rw [Nat.add_assoc]; exact g1⟩
    · intro z hz
      obtain ⟨i, hi, rfl⟩ := List.mem_map.1 hz
      obtain ⟨_, _, g2, g3⟩ := hf i (List.mem_range.1 hi)
      exact ⟨g2, g3⟩
theorem int_arg {W : World} {n : Nat} {v : Value} {y : DataW H × List MemPlace} (h : DataW.trod enc Try.prog W 0 (fun _ => true) true n 5 [v] = some y) : ∃ k : Nat, v = .int .u8 k ∧ k < 256 := by
  obtain ⟨k, e, _, hw⟩ := DataW.trod_int Try.underlying5 h
  simp at e
  have : 0 ≤ k ∧ k < 256 := by
    simp [Lit.wf, IntKind.min, IntKind.max, IntKind.signed, IntKind.bits] at hw
    omega
  exact ⟨k.toNat, by rw [e, Int.toNat_of_nonneg this.1], by omega⟩
/-- A node's sizes. -/
def nodeFits (d : Nat) (x : Dom.N) : Prop := x.text.length ≤ maxLen ∧ x.name.length ≤ maxLen ∧ (∀ a ∈ x.atts, a.1.length ≤ maxLen ∧ a.2.length ≤ maxLen) ∧ x.atts.length ≤ maxLen ∧ x.kids.length ≤ maxLen ∧ Dom.okL maxLen d x.kids
theorem okL_deeper {M : Nat} : ∀ {d e : Nat} {ns : List Dom.N}, d ≤ e → Dom.depthLe d ns → Dom.okL M d ns → Dom.okL M e ns
  | 0, e, ns, _, h, _ => by
    obtain rfl : ns = [] := h
    cases e with
    | zero => trivial
    | succ e => exact fun x hx => by cases hx
  | d + 1, 0, _, h, _, _ => by omega
  | d + 1, e + 1, ns, h, hd, ho => fun x hx => by
    obtain ⟨h1, h2, h3, h4, h5, h6⟩ := ho x hx
    exact ⟨h1, h2, h3, h4, h5, okL_deeper (by omega) (hd x hx) h6⟩
theorem okL_wk {M M' : Nat} (hM : M ≤ M') : ∀ {d : Nat} {ns : List Dom.N}, Dom.okL M d ns → Dom.okL M' d ns
  | 0, _, h => h
  | d + 1, ns, h => fun x hx => by
    obtain ⟨h1, h2, h3, h4, h5, h6⟩ := h x hx
    exact ⟨by omega, by omega, fun a ha => ⟨by have := h3 a ha; omega, by have := h3 a ha; omega⟩, by omega, by omega, okL_wk hM h6⟩
theorem IsN.depth {S : Nat → Prop} : ∀ {d : Nat} {w : World} {a : Option Addr} {n : Nat} {ns : List Dom.N}, IsN S d w a n ns → Dom.depthLe d ns
  | 0, _, _, _, _, h => h.1
  | d + 1, w, a, n, ns, h => fun x hx => by
    obtain ⟨i, hi⟩ := List.mem_iff_getElem?.1 hx
    have hn : n ≠ 0 := by
      rintro rfl
      rw [List.length_eq_zero_iff.1 h.1] at hx
      cases hx
    obtain ⟨b, off, _, _, hat⟩ := h.2.resolve_left hn
    obtain ⟨_, _, _, _, _, _, hx⟩ := hat i x hi
    exact hx.kids.depth
/-- A list of nodes, out of its reading. -/
theorem nodes_arg {W : World} : ∀ (n : Nat) {v : Value} {y : DataW H × List MemPlace}, DataW.trod enc Try.prog W 0 (fun _ => true) true n 30 [v] = some y →
    ∃ a len cap ns, v = .slice a len cap ∧ IsN (fun _ => True) n W a len ns ∧ Dom.okL maxLen n ns ∧ len ≤ cap ∧ cap ≤ maxLen ∧ (a = none → cap = 0) := by
  intro n
  induction n using Nat.strongRecOn with
  | ind n ih =>
    intro v y h
    rcases DataW.trod_slice Try.underlying30 h with ⟨hcs, _⟩ | ⟨a, len, cap, elems, rest, m, rfl, hcs, _, _, hl, hm, hlen, hel, _⟩
    · simp at hcs
      refine ⟨none, 0, 0, [], hcs, IsN.nil _ _ _ _, ?_, Nat.le_refl _, by unfold maxLen; omega, fun _ => rfl⟩
      cases n with
      | zero => trivial
      | succ n => exact fun x hx => by cases hx
    · simp at hcs
      have hsp0 : len ≠ 0 → a.spot = none := by
        intro h0
        have key := hel 0 (by omega)
        rw [show Try.prog.cellsOf 32 = 6 by kernel_rfl, List.getElem?_eq_getElem (by omega)] at key
        obtain ⟨cs, h1, _⟩ := Option.bind_eq_some_iff.1 key
        obtain ⟨_, hl6, hc⟩ := World.cells?_some h1
        have c0 := hc 0 (by omega)
        rw [List.getElem?_eq_getElem (by omega)] at c0
        have := World.cell?_spot c0
        simpa [Addr.add] using this
      have hall : ∀ i, ∃ x : Dom.N, i < len → (∃ aa an ac ka kn kc, a.spot = none ∧ NodeAt (fun _ => True) (IsN (fun _ => True) m W) W a.block (a.off + i * 6) x aa an ac ka kn kc) ∧ nodeFits m x := by
        intro i
        by_cases hi : i < len
        · have key := hel i hi
          rw [show Try.prog.cellsOf 32 = 6 by kernel_rfl, List.getElem?_eq_getElem (by omega)] at key
          obtain ⟨cs, h1, h2⟩ := Option.bind_eq_some_iff.1 key
          obtain ⟨v0, v1, v2, v3, v4, v5, y0, y1, y2, y3, y4, y5, k, rfl, rfl, t0, t1, t2, t3, t4, t5⟩ := open_six Try.underlying32 (by kernel_rfl) ⟨rfl, rfl, rfl, rfl, rfl, rfl⟩ ⟨by kernel_rfl, by kernel_rfl, by kernel_rfl, by kernel_rfl, by kernel_rfl, by kernel_rfl⟩ h2
          obtain ⟨_, _, hc⟩ := World.cells?_some h1
          obtain ⟨k0, rfl, w0⟩ := int_arg t0
          obtain ⟨k1, rfl, w1⟩ := int_arg t1
          obtain ⟨s2, e2, _, z2⟩ := DataW.trod_string Try.underlying9 t2
          obtain ⟨a3, n3, c3, ls, rfl, i3, l3, m3, x3, q3⟩ := attrs_arg t3
          obtain ⟨s4, e4, _, z4⟩ := DataW.trod_string Try.underlying9 t4
          obtain ⟨a5, n5, c5, ks, rfl, i5, o5, l5, m5, x5⟩ := ih k (by omega) t5
          simp at e2 e4
          subst e2 e4
          have c0 := hc 0 (by omega)
          have c1 := hc 1 (by omega)
          have c2 := hc 2 (by omega)
          have c3 := hc 3 (by omega)
          have c4 := hc 4 (by omega)
          have c5 := hc 5 (by omega)
          obtain ⟨b, off, sp⟩ := a
          obtain rfl : sp = none := hsp0 (by omega)
          rw [add_plain, add_plain] at c0 c1 c2 c3 c4 c5
          refine ⟨.mk k0 k1 s2.data.toList ls s4.data.toList ks, fun _ => ⟨⟨a3, n3, _, a5, n5, _, rfl, c0, c1, c2, c3, c4, c5, i3, .inr fun _ _ => trivial, i5.deeper (by omega), x3, x5⟩, ?_⟩⟩
          exact ⟨by show s4.data.toList.length ≤ _; rw [size_list]; exact z4, by show s2.data.toList.length ≤ _; rw [size_list]; exact z2, q3, by show ls.length ≤ _; have := i3.1; omega, by show ks.length ≤ _; have := i5.len; omega, okL_deeper (by omega) i5.depth o5⟩
        · exact ⟨.mk 0 0 [] [] [] [], fun h => absurd h hi⟩
      obtain ⟨f, hf⟩ := Classical.axiomOfChoice hall
      refine ⟨some a, len, cap, (List.range len).map f, hcs, ⟨by simp, ?_⟩, ?_, hl, hm, fun e => (by cases e)⟩
      · by_cases h0 : len = 0
        · exact .inl h0
        · obtain ⟨⟨_, _, _, _, _, _, hsp, _⟩, _⟩ := hf 0 (by omega)
          obtain ⟨b, off, sp⟩ := a
          obtain rfl : sp = none := hsp
          refine .inr ⟨b, off, rfl, trivial, fun i x hi => ?_⟩
          rw [List.getElem?_map, Option.map_eq_some_iff] at hi
          obtain ⟨j, hj, rfl⟩ := hi
          have hjl : i < len := by
            have := (List.getElem?_eq_some_iff.1 hj).1
            simpa using this
          rw [List.getElem?_range hjl] at hj
          obtain rfl := Option.some.inj hj
          obtain ⟨aa, an, ac, ka, kn, kc, _, hx⟩ := (hf i hjl).1
          exact ⟨aa, an, ac, ka, kn, kc, hx⟩
      · intro x hx
        obtain ⟨i, hi, rfl⟩ := List.mem_map.1 hx
        exact (hf i (List.mem_range.1 hi)).2
end
end Go.Proofs.Ythbklcpjbeelhaa
