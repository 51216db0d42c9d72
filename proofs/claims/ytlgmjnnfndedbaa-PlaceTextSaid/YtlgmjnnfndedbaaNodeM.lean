/- Plain Lean: nodes that stand in one another; how much they weigh; when they are alike; how they are printed. Nothing of a program stands here. Nodes in memory: a list of structs of six cells, attributes and kids in lists of their own. -/
import Derived.Test.YtlgmjnnfndedbaaAppT
namespace Go.Proofs.Ytlgmjnnfndedbaa.Dom
open Go.Lib
set_option maxRecDepth 100000
set_option linter.unusedVariables false

/-- A node, all fields. -/
inductive N where
  | mk (kind space : Nat) (name : List UInt8) (atts : List (List UInt8 × List UInt8)) (text : List UInt8) (kids : List N)
def N.kind : N → Nat | .mk k _ _ _ _ _ => k
def N.space : N → Nat | .mk _ s _ _ _ _ => s
def N.name : N → List UInt8 | .mk _ _ n _ _ _ => n
def N.atts : N → List (List UInt8 × List UInt8) | .mk _ _ _ a _ _ => a
def N.text : N → List UInt8 | .mk _ _ _ _ t _ => t
def N.kids : N → List N | .mk _ _ _ _ _ l => l
/-! ### Weights -/
def sumA : List (List UInt8 × List UInt8) → Nat
  | [] => 0
  | x :: r => (1 + x.1.length / 8 + x.2.length / 8) + sumA r
def sumL (c : N → Nat) : List N → Nat
  | [] => 0
  | x :: r => c x + sumL c r
/-- What nodes weigh, all of it. -/
def sumW : Nat → List N → Nat
  | 0, _ => 0
  | d + 1, ns => sumL (fun x => (1 + x.text.length / 8 + x.name.length / 8) + sumA x.atts + sumW d x.kids) ns
theorem sumL_mem (c : N → Nat) {x : N} : ∀ {l : List N}, x ∈ l → c x ≤ sumL c l
  | y :: r, h => by
    rcases List.mem_cons.1 h with rfl | h
    · exact Nat.le_add_right _ _
    · exact Nat.le_trans (sumL_mem c h) (Nat.le_add_left _ _)
theorem sumA_mem {x : List UInt8 × List UInt8} : ∀ {l : List (List UInt8 × List UInt8)}, x ∈ l → 1 + x.1.length / 8 + x.2.length / 8 ≤ sumA l
  | y :: r, h => by
    rcases List.mem_cons.1 h with rfl | h
    · exact Nat.le_add_right _ _
    · exact Nat.le_trans (sumA_mem h) (Nat.le_add_left _ _)
theorem sumL_len (c : N → Nat) (hc : ∀ x, 1 ≤ c x) : ∀ l : List N, l.length ≤ sumL c l
  | [] => Nat.le_refl _
  | x :: r => by
    have h1 := hc x
    have h2 := sumL_len c hc r
    show r.length + 1 ≤ c x + sumL c r
    omega
theorem sumA_len : ∀ l : List (List UInt8 × List UInt8), l.length ≤ sumA l
  | [] => Nat.le_refl _
  | x :: r => by
    have h2 := sumA_len r
    show r.length + 1 ≤ _ + sumA r
    omega
/-- What a weight says of a list: how long it is, and of each in it. -/
theorem sumW_len (d : Nat) (ns : List N) : ns.length ≤ sumW (d + 1) ns := sumL_len _ (fun x => by omega) ns
theorem sumW_mem {d : Nat} {ns : List N} {x : N} (h : x ∈ ns) : (1 + x.text.length / 8 + x.name.length / 8) + sumA x.atts + sumW d x.kids ≤ sumW (d + 1) ns := sumL_mem (fun x => (1 + x.text.length / 8 + x.name.length / 8) + sumA x.atts + sumW d x.kids) h

/-! ### Alike -/
def oneB (rec : List N → List N → Bool) (x y : N) : Bool :=
  if x.kind ≠ y.kind then false
  else if x.kind = 2 ∨ x.kind = 3 then decide (x.text = y.text)
  else if x.kind = 1 then decide (x.space = y.space ∧ x.name = y.name ∧ x.atts = y.atts) && rec x.kids y.kids
  else true
/-! ### Printed -/
end Go.Proofs.Ytlgmjnnfndedbaa.Dom
namespace Go.Proofs.Ytlgmjnnfndedbaa
open Go.RowKit Go.Lib
set_option maxRecDepth 100000
set_option linter.unusedVariables false

/-- A list of pairs whose block, if it has any, is one of S. -/
def InS (S : Nat → Prop) (a : Option Addr) (n : Nat) : Prop := n = 0 ∨ ∀ p, a = some p → S p.block
theorem isA_in {S : Nat → Prop} {w w' : World} {ad : Option Addr} {n : Nat} {ls : List (List UInt8 × List UInt8)} (h : IsA w ad n ls) (hs : InS S ad n) (hk : ∀ k, S k → w'.heap[k]? = w.heap[k]?) : IsA w' ad n ls := by
  refine ⟨h.1, ?_⟩
  rcases hs with h0 | hs
  · exact .inl h0
  refine h.2.elim .inl fun ⟨b, off, e, hat⟩ => .inr ⟨b, off, e, fun i l hi => ?_⟩
  obtain ⟨h1, h2⟩ := hat i l hi
  have hb := hk _ (hs _ e)
  exact ⟨(World.cell?_of_block (a := ⟨b, off + i * 2, none⟩) hb).trans h1, (World.cell?_of_block (a := ⟨b, off + i * 2 + 1, none⟩) hb).trans h2⟩
/-- A node's cells from off on; L says what its kids' list is. -/
structure NodeAt (S : Nat → Prop) (L : Option Addr → Nat → List Dom.N → Prop) (w : World) (b off : Nat) (x : Dom.N) (aa : Option Addr) (an ac : Nat) (ka : Option Addr) (kn kc : Nat) : Prop where
  c0 : w.cell? ⟨b, off, none⟩ = some (.int .u8 x.kind)
  c1 : w.cell? ⟨b, off + 1, none⟩ = some (.int .u8 x.space)
  c2 : w.cell? ⟨b, off + 2, none⟩ = some (.string (bs x.name))
  c3 : w.cell? ⟨b, off + 3, none⟩ = some (.slice aa an ac)
  c4 : w.cell? ⟨b, off + 4, none⟩ = some (.string (bs x.text))
  c5 : w.cell? ⟨b, off + 5, none⟩ = some (.slice ka kn kc)
  atts : IsA w aa an x.atts
  inS : InS S aa an
  kids : L ka kn x.kids
  anil : aa = none → ac = 0
  knil : ka = none → kc = 0
/-- A list of nodes that stand at most d deep in one another, in blocks of S. -/
def IsN (S : Nat → Prop) : Nat → World → Option Addr → Nat → List Dom.N → Prop
  | 0, _, _, n, ns => ns = [] ∧ n = 0
  | d + 1, w, a, n, ns => ns.length = n ∧ (n = 0 ∨ ∃ b off, a = some ⟨b, off, none⟩ ∧ S b ∧ ∀ (i : Nat) x, ns[i]? = some x → ∃ aa an ac ka kn kc, NodeAt S (IsN S d w) w b (off + i * 6) x aa an ac ka kn kc)
theorem IsN.len {S : Nat → Prop} : ∀ {d : Nat} {w : World} {a : Option Addr} {n : Nat} {ns : List Dom.N}, IsN S d w a n ns → ns.length = n
  | 0, _, _, _, _, h => by rw [h.1, h.2]; rfl
  | _ + 1, _, _, _, _, h => h.1
theorem IsN.nil (S : Nat → Prop) (d : Nat) (w : World) (a : Option Addr) : IsN S d w a 0 [] := by
  cases d with
  | zero => exact ⟨rfl, rfl⟩
  | succ d => exact ⟨rfl, .inl rfl⟩
/-- It stands where its blocks stand as they stood. -/
theorem IsN.keep {S : Nat → Prop} : ∀ {d : Nat} {w w' : World} {a : Option Addr} {n : Nat} {ns : List Dom.N}, IsN S d w a n ns → (∀ k, S k → w'.heap[k]? = w.heap[k]?) → IsN S d w' a n ns
  | 0, _, _, _, _, _, h, _ => h
  | d + 1, w, w', a, n, ns, h, hk => by
    refine ⟨h.1, h.2.elim .inl fun ⟨b, off, e, hb, hat⟩ => .inr ⟨b, off, e, hb, fun i x hi => ?_⟩⟩
    obtain ⟨aa, an, ac, ka, kn, kc, hx⟩ := hat i x hi
    have up : ∀ (o : Nat) {v : Value}, w.cell? ⟨b, o, none⟩ = some v → w'.cell? ⟨b, o, none⟩ = some v := fun o _ hc => (World.cell?_of_block (a := ⟨b, o, none⟩) (hk b hb)).trans hc
    exact ⟨aa, an, ac, ka, kn, kc, up _ hx.c0, up _ hx.c1, up _ hx.c2, up _ hx.c3, up _ hx.c4, up _ hx.c5, isA_in hx.atts hx.inS hk, hx.inS, hx.kids.keep hk, hx.anil, hx.knil⟩
theorem IsN.sub {S S' : Nat → Prop} (hs : ∀ k, S k → S' k) : ∀ {d : Nat} {w : World} {a : Option Addr} {n : Nat} {ns : List Dom.N}, IsN S d w a n ns → IsN S' d w a n ns
  | 0, _, _, _, _, h => h
  | d + 1, w, a, n, ns, h => by
    refine ⟨h.1, h.2.elim .inl fun ⟨b, off, e, hb, hat⟩ => .inr ⟨b, off, e, hs b hb, fun i x hi => ?_⟩⟩
    obtain ⟨aa, an, ac, ka, kn, kc, hx⟩ := hat i x hi
    exact ⟨aa, an, ac, ka, kn, kc, hx.c0, hx.c1, hx.c2, hx.c3, hx.c4, hx.c5, hx.atts, hx.inS.imp id (fun h p hp => hs _ (h p hp)), hx.kids.sub hs, hx.anil, hx.knil⟩
/-- The nodes of a list that is not empty. -/
theorem IsN.at {S : Nat → Prop} {d : Nat} {w : World} {a : Option Addr} {n : Nat} {ns : List Dom.N} (h : IsN S (d + 1) w a n ns) (hn : n ≠ 0) : ∃ b off, a = some ⟨b, off, none⟩ ∧ S b ∧ ∀ (i : Nat) x, ns[i]? = some x → ∃ aa an ac ka kn kc, NodeAt S (IsN S d w) w b (off + i * 6) x aa an ac ka kn kc := h.2.resolve_left hn
/-- It stands above a world. -/
theorem IsN.up {d : Nat} {w w' : World} {a : Option Addr} {n H : Nat} {ns : List Dom.N} (h : IsN (fun k => k < H) d w a n ns) (hb : Below H w w') : IsN (fun k => k < H) d w' a n ns := h.keep fun k hk => hb.block k hk
theorem IsN.below {S : Nat → Prop} : ∀ {d : Nat} {w w' : World} {a : Option Addr} {n : Nat} {ns : List Dom.N}, IsN S d w a n ns → Below w.heap.size w w' → IsN S d w' a n ns
  | 0, _, _, _, _, _, h, _ => h
  | d + 1, w, w', a, n, ns, h, hb => by
    refine ⟨h.1, h.2.elim .inl fun ⟨b, off, e, hS, hat⟩ => .inr ⟨b, off, e, hS, fun i x hi => ?_⟩⟩
    obtain ⟨aa, an, ac, ka, kn, kc, hx⟩ := hat i x hi
    have up : ∀ {p : Addr} {v : Value}, w.cell? p = some v → w'.cell? p = some v := fun hc => (hb.cell (World.block_lt_of_cell? _ _ hc)).trans hc
    exact ⟨aa, an, ac, ka, kn, kc, up hx.c0, up hx.c1, up hx.c2, up hx.c3, up hx.c4, up hx.c5, hx.atts.below hb, hx.inS, hx.kids.below hb, hx.anil, hx.knil⟩
theorem isA_lt {S : Nat → Prop} {w : World} {ad : Option Addr} {n : Nat} {ls : List (List UInt8 × List UInt8)} (h : IsA w ad n ls) (hs : InS S ad n) : InS (fun k => S k ∧ k < w.heap.size) ad n := by
  rcases hs with h0 | hs
  · exact .inl h0
  by_cases hn : n = 0
  · exact .inl hn
  refine .inr fun p hp => ⟨hs p hp, ?_⟩
  obtain ⟨b, off, e, hat⟩ := h.2.resolve_left hn
  obtain rfl := Option.some.inj (e.symm.trans hp)
  obtain ⟨l, hl⟩ : ∃ l, ls[0]? = some l := ⟨_, List.getElem?_eq_getElem (by have := h.1; omega)⟩
  exact World.block_lt_of_cell? _ _ (hat 0 l hl).1
/-- Its blocks are there. -/
theorem IsN.lt {S : Nat → Prop} : ∀ {d : Nat} {w : World} {a : Option Addr} {n : Nat} {ns : List Dom.N}, IsN S d w a n ns → IsN (fun k => S k ∧ k < w.heap.size) d w a n ns
  | 0, _, _, _, _, h => h
  | d + 1, w, a, n, ns, h => by
    refine ⟨h.1, ?_⟩
    by_cases hn : n = 0
    · exact .inl hn
    obtain ⟨b, off, e, hS, hat⟩ := h.2.resolve_left hn
    obtain ⟨x0, hx0⟩ : ∃ x, ns[0]? = some x := ⟨_, List.getElem?_eq_getElem (by have := h.1; omega)⟩
    obtain ⟨_, _, _, _, _, _, h0⟩ := hat 0 x0 hx0
    refine .inr ⟨b, off, e, ⟨hS, World.block_lt_of_cell? _ _ h0.c0⟩, fun i x hi => ?_⟩
    obtain ⟨aa, an, ac, ka, kn, kc, hx⟩ := hat i x hi
    exact ⟨aa, an, ac, ka, kn, kc, hx.c0, hx.c1, hx.c2, hx.c3, hx.c4, hx.c5, hx.atts, isA_lt hx.atts hx.inS, hx.kids.lt, hx.anil, hx.knil⟩
end Go.Proofs.Ytlgmjnnfndedbaa
