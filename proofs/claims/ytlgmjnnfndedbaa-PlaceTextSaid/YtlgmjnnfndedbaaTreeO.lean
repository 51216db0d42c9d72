/- Nodes that a call itself made, appended one by one; tympanref00.LentNodes. Nodes that a call itself made, all apart: each list in a block of its own, each node's attributes and kids in a stretch of blocks of their own. Laws: appending lists of numbers to the call's own; the reference's Kids. Walks over the reference of layer 10: a node without its kids. The reference's tree in memory, as its calls write it: the tree's block, the row of its nodes, each node's list of kids in a row of its own, all apart; S: the blocks that are the tree's. -/
import Derived.Test.YtlgmjnnfndedbaaNodeM
import Derived.Test.YtlgmjnnfndedbaaMarkM
import Derived.Test.YtlgmjnnfndedbaaAppT
import Derived.Maps.AppendAt
import Derived.IntWalk
import Derived.Deep.LoopGhost
import Derived.Laws.AppendOwnNone
namespace Go.Proofs.Ytlgmjnnfndedbaa
open Go.RowKit Go.Lib
set_option maxRecDepth 100000
set_option linter.unusedVariables false

/-- A node as it lies in memory. -/
structure NodeR where
  kind : Nat
  space : Nat
  name : List UInt8
  aa : Option Addr
  an : Nat
  ac : Nat
  text : List UInt8
  ka : Option Addr
  kn : Nat
  kc : Nat
def nodeRow (r : NodeR) : List Value := [.int .u8 r.kind, .int .u8 r.space, .string (bs r.name), .slice r.aa r.an r.ac, .string (bs r.text), .slice r.ka r.kn r.kc]
def nodeL (rs : List NodeR) : List Value := rs.flatMap nodeRow
theorem nodeL_cons (r : NodeR) (rs : List NodeR) : nodeL (r :: rs) = nodeRow r ++ nodeL rs := rfl
theorem nodeL_append (a b : List NodeR) : nodeL (a ++ b) = nodeL a ++ nodeL b := by simp [nodeL]
theorem nodeL_len (rs : List NodeR) : (nodeL rs).length = rs.length * 6 := by
  induction rs with
  | nil => rfl
  | cons r t ih =>
    rw [nodeL_cons, List.length_append, ih, List.length_cons]
    show 6 + t.length * 6 = _
    omega
theorem nodeL_get : ∀ (rs : List NodeR) (i : Nat) (r : NodeR), rs[i]? = some r → ∀ j, j < 6 → (nodeL rs)[i * 6 + j]? = (nodeRow r)[j]?
  | [], i, r, h, j, hj => by simp at h
  | y :: t, 0, r, h, j, hj => by
    simp at h
    subst h
    rw [nodeL_cons, Nat.zero_mul, Nat.zero_add, List.getElem?_append_left (by show j < 6; exact hj)]
  | y :: t, i + 1, r, h, j, hj => by
    rw [nodeL_cons, List.getElem?_append_right (by show 6 ≤ _; omega), show (i + 1) * 6 + j - (nodeRow y).length = i * 6 + j by show (i + 1) * 6 + j - 6 = _; omega]
    exact nodeL_get t i r (by simpa using h) j hj
theorem node_one (rs : List NodeR) : ∀ u ∈ nodeL rs, u.oneCell' = true := by
  intro u hu
  simp only [nodeL, List.mem_flatMap] at hu
  obtain ⟨r, _, hr⟩ := hu
  simp [nodeRow] at hr
  rcases hr with rfl | rfl | rfl | rfl | rfl | rfl <;> rfl
theorem info_node : (Try.prog.info? 61).map (fun i => (i.zero, i.size, i.bytes)) = some (some (.agg #[.int .u8 0, .int .u8 0, .string ⟨#[]⟩, .slice none 0 0, .string ⟨#[]⟩, .slice none 0 0]), 6, 88) := by kernel_rfl
end Go.Proofs.Ytlgmjnnfndedbaa
namespace Go.Proofs.Ytlgmjnnfndedbaa
open Go.RowKit Go.Lib
set_option maxRecDepth 100000
set_option linter.unusedVariables false

/-- The block of a list, that may be written. -/
def OwnB (w : World) (T : TypeId) (a : Option Addr) (n : Nat) : Prop := n = 0 ∨ ∃ b cs, a = some ⟨b, 0, none⟩ ∧ BlkW w b cs T
theorem own_blk {w : World} {base : Nat} {T : TypeId} {sz : Nat} {a : Option Addr} {n cap m : Nat} {xs : List Value} (h : w.ownsRow base T sz (.slice a n cap) m xs) : OwnB w T a m := by
  obtain ⟨_, ⟨e, h0⟩ | ⟨g, cap', cur, e, hb, hg, _⟩⟩ := h
  · exact .inl h0
  · injection e with e1
    exact .inr ⟨g, cur, e1, hg⟩
theorem OwnB.keep {w w' : World} {T : TypeId} {a : Option Addr} {n : Nat} {S : Nat → Prop} (h : OwnB w T a n) (hs : InS S a n) (hk : ∀ k, S k → w'.heap[k]? = w.heap[k]?) : OwnB w' T a n := by
  rcases h with h | ⟨b, cs, e, h⟩
  · exact .inl h
  rcases hs with hs | hs
  · exact .inl hs
  exact .inr ⟨b, cs, e, (hk b (hs _ e)).trans h⟩
/-- A list of nodes in the blocks from lo up to hi, all apart: node i's attributes lie from f i up to g i, its kids from g i up to t i. -/
def IsD : Nat → World → Nat → Nat → Option Addr → Nat → List Dom.N → Prop
  | 0, _, _, _, _, n, ns => ns = [] ∧ n = 0
  | d + 1, w, lo, hi, a, n, ns => ns.length = n ∧ (n = 0 ∨ ∃ (b : Nat) (cs : Array Value) (f g t : Nat → Nat), a = some ⟨b, 0, none⟩ ∧ BlkW w b cs 61 ∧ lo ≤ b ∧ b < hi ∧ lo ≤ f 0 ∧ f n ≤ hi ∧ (∀ i, i < n → f i ≤ g i ∧ g i ≤ t i ∧ t i ≤ f (i + 1) ∧ (b < f i ∨ t i ≤ b)) ∧
      ∀ (i : Nat) x, ns[i]? = some x → ∃ aa an ac ka kn kc, NodeAt (fun k => f i ≤ k ∧ k < g i) (IsD d w (g i) (t i)) w b (i * 6) x aa an ac ka kn kc ∧ OwnB w 91 aa an)
theorem mono_le {f : Nat → Nat} {n : Nat} (h : ∀ i, i < n → f i ≤ f (i + 1)) : ∀ {i j : Nat}, i ≤ j → j ≤ n → f i ≤ f j := by
  intro i j hij hj
  induction j with
  | zero => obtain rfl : i = 0 := by omega
            exact Nat.le_refl _
  | succ j ih =>
    by_cases e : i = j + 1
    · subst e; exact Nat.le_refl _
    · have := ih (by omega) (by omega)
      have := h j (by omega)
      omega
/-- It is a list of nodes in these blocks. -/
theorem IsD.isN : ∀ {d : Nat} {w : World} {lo hi : Nat} {a : Option Addr} {n : Nat} {ns : List Dom.N}, IsD d w lo hi a n ns → IsN (fun k => lo ≤ k ∧ k < hi) d w a n ns
  | 0, _, _, _, _, _, _, h => h
  | d + 1, w, lo, hi, a, n, ns, h => by
    refine ⟨h.1, h.2.elim .inl fun ⟨b, cs, f, g, t, e, hB, h1, h2, h3, h4, h5, hat⟩ => .inr ⟨b, 0, e, ⟨h1, h2⟩, fun i x hx => ?_⟩⟩
    obtain ⟨aa, an, ac, ka, kn, kc, X, _⟩ := hat i x hx
    have hi' : i < n := by rw [← h.1]; exact (List.getElem?_eq_some_iff.1 hx).1
    have m1 := mono_le (f := f) (n := n) (fun i hi => by have := h5 i hi; omega) (Nat.zero_le i) (by omega)
    have m2 := mono_le (f := f) (n := n) (fun i hi => by have := h5 i hi; omega) (show i + 1 ≤ n by omega) (Nat.le_refl _)
    have m3 := h5 i hi'
    rw [Nat.zero_add]
    exact ⟨aa, an, ac, ka, kn, kc, X.c0, X.c1, X.c2, X.c3, X.c4, X.c5, X.atts, X.inS.imp id (fun q p hp => by have := q p hp; exact ⟨by omega, by omega⟩), X.kids.isN.sub (fun k hk => ⟨by omega, by omega⟩), X.anil, X.knil⟩
/-- It stands where its blocks stand as they stood. -/
theorem IsD.keep : ∀ {d : Nat} {w w' : World} {lo hi : Nat} {a : Option Addr} {n : Nat} {ns : List Dom.N}, IsD d w lo hi a n ns → (∀ k, lo ≤ k → k < hi → w'.heap[k]? = w.heap[k]?) → IsD d w' lo hi a n ns
  | 0, _, _, _, _, _, _, _, h, _ => h
  | d + 1, w, w', lo, hi, a, n, ns, h, hk => by
    refine ⟨h.1, h.2.elim .inl fun ⟨b, cs, f, g, t, e, hB, h1, h2, h3, h4, h5, hat⟩ => .inr ⟨b, cs, f, g, t, e, (hk b h1 h2).trans hB, h1, h2, h3, h4, h5, fun i x hx => ?_⟩⟩
    obtain ⟨aa, an, ac, ka, kn, kc, X, Y⟩ := hat i x hx
    have hi' : i < n := by rw [← h.1]; exact (List.getElem?_eq_some_iff.1 hx).1
    have m1 := mono_le (f := f) (n := n) (fun i hi => by have := h5 i hi; omega) (Nat.zero_le i) (by omega)
    have m2 := mono_le (f := f) (n := n) (fun i hi => by have := h5 i hi; omega) (show i + 1 ≤ n by omega) (Nat.le_refl _)
    have m3 := h5 i hi'
    have up : ∀ (o : Nat) {v : Value}, w.cell? ⟨b, o, none⟩ = some v → w'.cell? ⟨b, o, none⟩ = some v := fun o _ hc => (World.cell?_of_block (a := ⟨b, o, none⟩) (hk b h1 h2)).trans hc
    have ka' : ∀ k, f i ≤ k ∧ k < g i → w'.heap[k]? = w.heap[k]? := fun k q => hk k (by omega) (by omega)
    exact ⟨aa, an, ac, ka, kn, kc, ⟨up _ X.c0, up _ X.c1, up _ X.c2, up _ X.c3, up _ X.c4, up _ X.c5, isA_in X.atts X.inS ka', X.inS, X.kids.keep (fun k q1 q2 => hk k (by omega) (by omega)), X.anil, X.knil⟩, Y.keep X.inS ka'⟩
/-- In a wider stretch. -/
theorem IsD.wide : ∀ {d : Nat} {w : World} {lo hi lo' hi' : Nat} {a : Option Addr} {n : Nat} {ns : List Dom.N}, IsD d w lo hi a n ns → lo' ≤ lo → hi ≤ hi' → IsD d w lo' hi' a n ns
  | 0, _, _, _, _, _, _, _, _, h, _, _ => h
  | d + 1, w, lo, hi, lo', hi', a, n, ns, h, q1, q2 => ⟨h.1, h.2.elim .inl fun ⟨b, cs, f, g, t, e, hB, h1, h2, h3, h4, h5, hat⟩ => .inr ⟨b, cs, f, g, t, e, hB, by omega, by omega, by omega, by omega, h5, hat⟩⟩
end Go.Proofs.Ytlgmjnnfndedbaa
namespace Go.Proofs.Ytlgmjnnfndedbaa
open Go.RowKit Go.Lib
set_option maxRecDepth 100000
set_option linter.unusedVariables false

def zL (l : List Nat) : List Value := l.map fun (x : Nat) => Value.int .i64 (x : Nat)
theorem zL_get (l : List Nat) (i : Nat) : (zL l)[i]? = l[i]?.map fun (x : Nat) => Value.int .i64 (x : Nat) := by rw [zL, List.getElem?_map]
theorem zL_append (a b : List Nat) : zL (a ++ b) = zL a ++ zL b := by rw [zL, List.map_append]; rfl
theorem zL_one (l : List Nat) : ∀ u ∈ zL l, u.oneCell' = true := by
  intro u hu
  simp only [zL, List.mem_map] at hu
  obtain ⟨b, _, rfl⟩ := hu
  rfl
theorem info_int : (Try.prog.info? 3).map (fun i => (i.zero, i.size, i.bytes)) = some (some (.int .i64 0), 1, 8) := by kernel_rfl
theorem own_isZ {w : World} {base : Nat} {v : Value} {l : List Nat} (h : w.ownsRow base 3 1 v l.length (zL l)) :
    ∃ a cap, v = .slice a l.length cap ∧ IsZ w a l.length l ∧ l.length ≤ cap ∧ cap ≤ maxLen ∧ (∀ x, a = some x → base ≤ x.block) ∧ (a = none → cap = 0) := by
  obtain ⟨_, ⟨rfl, h0⟩ | ⟨g, cap, cur, rfl, hb, hg, hn, hc, hcs, ht⟩⟩ := h
  · exact ⟨none, 0, by rw [h0], ⟨rfl, .inl h0⟩, by omega, by unfold maxLen; omega, (fun x e => by cases e), fun _ => rfl⟩
  · refine ⟨_, cap, rfl, ⟨rfl, .inr ⟨g, 0, rfl, fun i x hi => ?_⟩⟩, hn, hc, (fun x e => by cases e; exact hb), (fun e => by cases e)⟩
    have hlt : i < l.length := (List.getElem?_eq_some_iff.1 hi).1
    have h1 : (zL l)[i]? = some (.int .i64 (x : Nat)) := by rw [zL_get, hi]; rfl
    rw [← ht, Nat.mul_one, List.getElem?_take_of_lt hlt] at h1
    simp only [World.cell?, Nat.zero_add, hg]
    simpa using h1
end Go.Proofs.Ytlgmjnnfndedbaa
namespace Go.Proofs.Ytlgmjnnfndedbaa
open Go.RowKit Go.Lib
set_option maxRecDepth 100000
set_option linter.unusedVariables false

theorem node_store {w W : World} {H B : Nat} {a0 a1 a2 a3 a4 a5 : Value} {T : TypeId} (h : BlkW W H #[a0, a1, a2, a3, a4, a5] T) (hb : Below B w W) (hB : B ≤ H) (b0 b1 b2 b3 b4 b5 : Value) :
    ∃ W', ((((((W.setCell ⟨H, 0, none⟩ b0).setCell ⟨H, 1, none⟩ b1).setCell ⟨H, 2, none⟩ b2).setCell ⟨H, 3, none⟩ b3).setCell ⟨H, 4, none⟩ b4).setCell ⟨H, 5, none⟩ b5) = W' ∧
      W'.cell? ⟨H, 0, none⟩ = some b0 ∧ W'.cell? ⟨H, 1, none⟩ = some b1 ∧ W'.cell? ⟨H, 2, none⟩ = some b2 ∧ W'.cell? ⟨H, 3, none⟩ = some b3 ∧ W'.cell? ⟨H, 4, none⟩ = some b4 ∧ W'.cell? ⟨H, 5, none⟩ = some b5 ∧ Below B w W' ∧ (∀ k, k ≠ H → W'.heap[k]? = W.heap[k]?) := by
  have h5 := (((((h.set_ 0 b0).set_ 1 b1).set_ 2 b2).set_ 3 b3).set_ 4 b4).set_ 5 b5
  have e : ((((((#[a0, a1, a2, a3, a4, a5] : Array Value).setIfInBounds 0 b0).setIfInBounds 1 b1).setIfInBounds 2 b2).setIfInBounds 3 b3).setIfInBounds 4 b4).setIfInBounds 5 b5 = #[b0, b1, b2, b3, b4, b5] := rfl
  rw [e] at h5
  refine ⟨_, rfl, h5.cell 0, h5.cell 1, h5.cell 2, h5.cell 3, h5.cell 4, h5.cell 5, (((((hb.setCell hB b0).setCell hB b1).setCell hB b2).setCell hB b3).setCell hB b4).setCell hB b5, fun k hk => ?_⟩
  rw [Below.heap_setCell _ _ _ _ hk, Below.heap_setCell _ _ _ _ hk, Below.heap_setCell _ _ _ _ hk, Below.heap_setCell _ _ _ _ hk, Below.heap_setCell _ _ _ _ hk, Below.heap_setCell _ _ _ _ hk]
/-- What a node without its kids is, as a value. -/
def BareV (w w' : World) (e : Ending) (y : Dom.N) : Prop := ∃ a c, e = .returned (.agg #[.int .u8 y.kind, .int .u8 y.space, .string (bs y.name), .slice a y.atts.length c, .string (bs y.text), .slice none 0 0]) ∧ IsA w' a y.atts.length y.atts ∧ InS (fun k => w.heap.size ≤ k) a y.atts.length ∧ (a = none → c = 0) ∧ TypB w' a ∧ (∀ p, a = some p → w.heap.size ≤ p.block) ∧ OwnB w' 91 a y.atts.length
end Go.Proofs.Ytlgmjnnfndedbaa
namespace Go.Proofs.Ytlgmjnnfndedbaa
open Go.RowKit Go.Lib
set_option maxRecDepth 100000
set_option linter.unusedVariables false

/-! ### Rows of the call's own -/
theorem own_keep {w w' : World} {base : Nat} {e : TypeId} {size : Nat} {v : Value} {n : Nat} {xs : List Value} (h : w.ownsRow base e size v n xs) (hk : ∀ g, v.ownBlock = some g → w'.heap[g]? = w.heap[g]?) : w'.ownsRow base e size v n xs := by
  obtain ⟨hl, ⟨rfl, h0⟩ | ⟨g, cap, cur, rfl, hb, hg, hn, hc, hcs, ht⟩⟩ := h
  · exact ⟨hl, .inl ⟨rfl, h0⟩⟩
  · exact ⟨hl, .inr ⟨g, cap, cur, rfl, hb, (hk g rfl).trans hg, hn, hc, hcs, ht⟩⟩
theorem own_cells {w : World} {base : Nat} {e : TypeId} {size : Nat} {v : Value} {n : Nat} {xs : List Value} (h : w.ownsRow base e size v n xs) {g : Nat} (hv : v.ownBlock = some g) : ∃ cs, BlkW w g cs e := by
  obtain ⟨_, ⟨rfl, h0⟩ | ⟨g', cap, cur, rfl, hb, hg, _⟩⟩ := h
  · cases hv
  · obtain rfl : g' = g := Option.some.inj hv
    exact ⟨cur, hg⟩
theorem own_set {w : World} {base : Nat} {e : TypeId} {size : Nat} {v : Value} {n : Nat} {xs : List Value} (h : w.ownsRow base e size v n xs) {g : Nat} (hv : v.ownBlock = some g) (k : Nat) (u : Value) : (w.setCell ⟨g, k, none⟩ u).ownsRow base e size v n (xs.set k u) := by
  obtain ⟨hl, ⟨rfl, h0⟩ | ⟨g', cap, cur, rfl, hb, hg, hn, hc, hcs, ht⟩⟩ := h
  · cases hv
  · obtain rfl : g' = g := Option.some.inj hv
    refine ⟨by rw [List.length_set]; exact hl, .inr ⟨g', cap, cur.setIfInBounds k u, rfl, hb, (show BlkW w g' cur e from hg).set_ k u, hn, hc, by rw [Array.size_setIfInBounds]; exact hcs, ?_⟩⟩
    rw [Array.toList_setIfInBounds, List.take_set, ht]
theorem own_addr {w : World} {base : Nat} {e : TypeId} {size : Nat} {v : Value} {n : Nat} {xs : List Value} (h : w.ownsRow base e size v n xs) (hn : n ≠ 0) : ∃ g cap, v = .slice (some ⟨g, 0, none⟩) n cap ∧ n ≤ cap := by
  obtain ⟨_, ⟨rfl, h0⟩ | ⟨g, cap, cur, rfl, hb, hg, hnc, _⟩⟩ := h
  · exact absurd h0 hn
  · exact ⟨g, cap, rfl, hnc⟩
/-! ### The nodes' row -/
/-! ### The tree -/
theorem blk_ne {w : World} {a b : Nat} {cs ds : Array Value} {T U : TypeId} (h : BlkW w a cs T) (g : BlkW w b ds U) (hT : T ≠ U) : a ≠ b := by
  intro e
  subst e
  unfold BlkW at h g
  rw [h] at g
  injection g with g
  injection g with _ g2 _
  exact hT g2
end Go.Proofs.Ytlgmjnnfndedbaa
