/- Nodes that a call itself made, all apart: each list in a block of its own, each node's attributes and kids in a stretch of blocks of their own. What the program's tree of layer 10 is known to do, as premises for what stands on it. P w base R S t: at R lies the tree t, in blocks of S, none below base. Nodes that a call itself made, all apart, appended one by one; what LentNodes makes. -/
import Derived.Test.YthbklcpjbeelhaaNodeLent
import Derived.Test.YthbklcpjbeelhaaRefCut
import Derived.Test.YthbklcpjbeelhaaWld
namespace Go.Proofs.Ythbklcpjbeelhaa
open Go.RowKit Go.Lib
set_option maxRecDepth 100000
set_option linter.unusedVariables false

/-- The block of a list, that may be written. -/
def OwnB (w : World) (T : TypeId) (a : Option Addr) (n : Nat) : Prop := n = 0 ∨ ∃ b cs, a = some ⟨b, 0, none⟩ ∧ BlkW w b cs T
theorem own_blk {w : World} {base : Nat} {T : TypeId} {sz : Nat} {a : Option Addr} {n cap m : Nat} {xs : List Value} (h : w.ownsRow base T sz (.slice a n cap) m xs) : OwnB w T a m := by
  obtain ⟨_, ⟨e, h0⟩ | ⟨g, cap', cur, e, hb, hg, _⟩⟩ := h
  · exact .inl h0
  · injection e with e1
    exact .inr ⟨g, cur, e1, hg⟩
theorem OwnB.keep {w w' : World} {T : TypeId} {a : Option Addr} {n : Nat} {S : Nat → Prop} (h : OwnB w T a n) (hs : InS S a n) (hk : ∀ k, S k → w'.heap[k]? = w.heap[k]?) : OwnB w' T a n := by
  rcases h with h | ⟨b, cs, e, h⟩
  · exact .inl h
  rcases hs with hs | hs
  · exact .inl hs
  exact .inr ⟨b, cs, e, (hk b (hs _ e)).trans h⟩
/-- A list of nodes in the blocks from lo up to hi, all apart: node i's attributes lie from f i up to g i, its kids from g i up to t i. -/
def IsD : Nat → World → Nat → Nat → Option Addr → Nat → List Dom.N → Prop
  | 0, _, _, _, _, n, ns => ns = [] ∧ n = 0
  | d + 1, w, lo, hi, a, n, ns => ns.length = n ∧ (n = 0 ∨ ∃ (b : Nat) (cs : Array Value) (f g t : Nat → Nat), a = some ⟨b, 0, none⟩ ∧ BlkW w b cs 32 ∧ lo ≤ b ∧ b < hi ∧ lo ≤ f 0 ∧ f n ≤ hi ∧ (∀ i, i < n → f i ≤ g i ∧ g i ≤ t i ∧ t i ≤ f (i + 1) ∧ (b < f i ∨ t i ≤ b)) ∧
      ∀ (i : Nat) x, ns[i]? = some x → ∃ aa an ac ka kn kc, NodeAt (fun k => f i ≤ k ∧ k < g i) (IsD d w (g i) (t i)) w b (i * 6) x aa an ac ka kn kc ∧ OwnB w 67 aa an)
theorem mono_le {f : Nat → Nat} {n : Nat} (h : ∀ i, i < n → f i ≤ f (i + 1)) : ∀ {i j : Nat}, i ≤ j → j ≤ n → f i ≤ f j := by
  intro i j hij hj
  induction j with
  | zero => obtain rfl : i = 0 := by omega
            exact Nat.le_refl _
  | succ j ih =>
    by_cases e : i = j + 1
    · subst e; exact Nat.le_refl _
    · have := ih (by omega) (by omega)
      have := h j (by omega)
      omega
/-- It is a list of nodes in these blocks. -/
theorem IsD.isN : ∀ {d : Nat} {w : World} {lo hi : Nat} {a : Option Addr} {n : Nat} {ns : List Dom.N}, IsD d w lo hi a n ns → IsN (fun k => lo ≤ k ∧ k < hi) d w a n ns
  | 0, _, _, _, _, _, _, h => h
  | d + 1, w, lo, hi, a, n, ns, h => by
    refine ⟨h.1, h.2.elim .inl fun ⟨b, cs, f, g, t, e, hB, h1, h2, h3, h4, h5, hat⟩ => .inr ⟨b, 0, e, ⟨h1, h2⟩, fun i x hx => ?_⟩⟩
    obtain ⟨aa, an, ac, ka, kn, kc, X, _⟩ := hat i x hx
    have hi' : i < n := by rw [← h.1]; exact (List.getElem?_eq_some_iff.1 hx).1
    have m1 := mono_le (f := f) (n := n) (fun i hi => by have := h5 i hi; omega) (Nat.zero_le i) (by omega)
    have m2 := mono_le (f := f) (n := n) (fun i hi => by have := h5 i hi; omega) (show i + 1 ≤ n by omega) (Nat.le_refl _)
    have m3 := h5 i hi'
    rw [Nat.zero_add]
    exact ⟨aa, an, ac, ka, kn, kc, X.c0, X.c1, X.c2, X.c3, X.c4, X.c5, X.atts, X.inS.imp id (fun q p hp => by have := q p hp; exact ⟨by omega, by omega⟩), X.kids.isN.sub (fun k hk => ⟨by omega, by omega⟩), X.anil, X.knil⟩
/-- It stands where its blocks stand as they stood. -/
theorem IsD.keep : ∀ {d : Nat} {w w' : World} {lo hi : Nat} {a : Option Addr} {n : Nat} {ns : List Dom.N}, IsD d w lo hi a n ns → (∀ k, lo ≤ k → k < hi → w'.heap[k]? = w.heap[k]?) → IsD d w' lo hi a n ns
  | 0, _, _, _, _, _, _, _, h, _ => h
  | d + 1, w, w', lo, hi, a, n, ns, h, hk => by
    refine ⟨h.1, h.2.elim .inl fun ⟨b, cs, f, g, t, e, hB, h1, h2, h3, h4, h5, hat⟩ => .inr ⟨b, cs, f, g, t, e, (hk b h1 h2).trans hB, h1, h2, h3, h4, h5, fun i x hx => ?_⟩⟩
    obtain ⟨aa, an, ac, ka, kn, kc, X, Y⟩ := hat i x hx
    have hi' : i < n := by rw [← h.1]; exact (List.getElem?_eq_some_iff.1 hx).1
    have m1 := mono_le (f := f) (n := n) (fun i hi => by have := h5 i hi; omega) (Nat.zero_le i) (by omega)
    have m2 := mono_le (f := f) (n := n) (fun i hi => by have := h5 i hi; omega) (show i + 1 ≤ n by omega) (Nat.le_refl _)
    have m3 := h5 i hi'
    have up : ∀ (o : Nat) {v : Value}, w.cell? ⟨b, o, none⟩ = some v → w'.cell? ⟨b, o, none⟩ = some v := fun o _ hc => (World.cell?_of_block (a := ⟨b, o, none⟩) (hk b h1 h2)).trans hc
    have ka' : ∀ k, f i ≤ k ∧ k < g i → w'.heap[k]? = w.heap[k]? := fun k q => hk k (by omega) (by omega)
    exact ⟨aa, an, ac, ka, kn, kc, ⟨up _ X.c0, up _ X.c1, up _ X.c2, up _ X.c3, up _ X.c4, up _ X.c5, isA_in X.atts X.inS ka', X.inS, X.kids.keep (fun k q1 q2 => hk k (by omega) (by omega)), X.anil, X.knil⟩, Y.keep X.inS ka'⟩
/-- In a wider stretch. -/
theorem IsD.wide : ∀ {d : Nat} {w : World} {lo hi lo' hi' : Nat} {a : Option Addr} {n : Nat} {ns : List Dom.N}, IsD d w lo hi a n ns → lo' ≤ lo → hi ≤ hi' → IsD d w lo' hi' a n ns
  | 0, _, _, _, _, _, _, _, _, h, _, _ => h
  | d + 1, w, lo, hi, lo', hi', a, n, ns, h, q1, q2 => ⟨h.1, h.2.elim .inl fun ⟨b, cs, f, g, t, e, hB, h1, h2, h3, h4, h5, hat⟩ => .inr ⟨b, cs, f, g, t, e, hB, by omega, by omega, by omega, by omega, h5, hat⟩⟩
end Go.Proofs.Ythbklcpjbeelhaa
namespace Go.Proofs.Ythbklcpjbeelhaa
open Go.RowKit Go.Lib
set_option maxRecDepth 100000
set_option linter.unusedVariables false

/-- A tree that is not too great. -/
structure Fit (t : Dom.T) : Prop where
  few : t.length ≤ 1000
  light : ∀ i, Dom.cost (Dom.nodeAt t i).nd ≤ 500000
theorem Fit.atts {t : Dom.T} (h : Fit t) (i : Nat) : (Dom.nodeAt t i).nd.atts.length ≤ 500000 := by
  have h1 := h.light i
  have h2 := Dom.sumA_len (Dom.nodeAt t i).nd.atts
  unfold Dom.cost at h1
  omega
theorem Fit.text {t : Dom.T} (h : Fit t) (i : Nat) : (Dom.nodeAt t i).nd.text.length ≤ 4000000 := by
  have h1 := h.light i
  unfold Dom.cost at h1
  omega
theorem cost_bare (x : Dom.N) : Dom.cost (Dom.bareP x) ≤ Dom.cost x := by
  unfold Dom.bareP
  split
  · show (1 + 0 / 8 + x.name.length / 8) + Dom.sumA x.atts ≤ (1 + x.text.length / 8 + x.name.length / 8) + Dom.sumA x.atts
    omega
  · show (1 + x.text.length / 8 + 0 / 8) + 0 ≤ (1 + x.text.length / 8 + x.name.length / 8) + Dom.sumA x.atts
    omega
theorem sum_max (f : Nat → Nat) (M : Nat) (h : ∀ j, f j ≤ M) : ∀ l : List Nat, (l.map f).sum ≤ l.length * M
  | [] => Nat.zero_le _
  | x :: r => by
    rw [List.map_cons, List.sum_cons, List.length_cons, Nat.add_mul, Nat.one_mul]
    have := sum_max f M h r
    have := h x
    omega
open Classical in
theorem Fit.whole {t : Dom.T} (h : Fit t) (hG : Dom.Good t) (f d i : Nat) : Dom.sumW d (Dom.wholeF f t i) ≤ 500000000 := by
  refine Nat.le_trans (Dom.whole_wt hG f d i) ?_
  unfold Dom.sumP
  refine Nat.le_trans (sum_max _ 500000 (fun j => ?_) _) ?_
  · split
    · exact Nat.le_trans (cost_bare _) (h.light j)
    · exact Nat.zero_le _
  · rw [List.length_range]
    have := h.few
    exact Nat.le_trans (Nat.mul_le_mul_right _ this) (by decide)
/-- What a call leaves that writes the tree. -/
def TurnedP (P : World → Nat → Nat → (Nat → Prop) → Dom.T → Prop) (w w' : World) (base R : Nat) (S : Nat → Prop) (t : Dom.T) : Prop := ∃ S', P w' base R S' t ∧ Turn S S' w w'
/-- A list of nodes, all apart, in new memory. -/
def NewD (d : Nat) (w w' : World) (e : Ending) (ns : List Dom.N) : Prop := ∃ a' n c', e = .returned (.slice a' n c') ∧ IsD d w' w.heap.size w'.heap.size a' n ns ∧ (a' = none → c' = 0) ∧ n ≤ c'
/-- A list of numbers in new memory, that may be written. -/
def NewZO (w w' : World) (e : Ending) (l : List Nat) : Prop := ∃ a c, e = .returned (.slice a l.length c) ∧ IsZ w' a l.length l ∧ (∀ x, a = some x → w.heap.size ≤ x.block) ∧ (a = none → c = 0) ∧ OwnB w' 3 a l.length
/-- What is known of the program's tree. -/
structure DomC (EW : World → Prop) (P : World → Nat → Nat → (Nat → Prop) → Dom.T → Prop) : Prop where
  keep : ∀ {w w' : World} {base R : Nat} {S Q Q' : Nat → Prop} {t : Dom.T}, P w base R S t → Turn Q Q' w w' → (∀ k, S k → ¬ Q k) → P w' base R S t
  inb : ∀ {w : World} {base R : Nat} {S : Nat → Prop} {t : Dom.T}, P w base R S t → ∀ k, S k → base ≤ k ∧ k < w.heap.size
  new : ∀ (w : World) (base : Nat), EW w → base ≤ w.heap.size → Calls Try.prog 9 #[] w fun e w' => ∃ R, e = .returned (.pointer (some ⟨R, 0, none⟩)) ∧ TurnedP P w w' base R (fun _ => False) Dom.tNew
  make : ∀ (w : World) (base R : Nat) (S : Nat → Prop) (t : Dom.T) (x : Dom.N) (aa : Option Addr) (an ac : Nat) (ka : Option Addr) (kn kc : Nat), EW w → P w base R S t → Dom.Good t → Fit t → base ≤ w.heap.size → IsA w aa an x.atts → (aa = none → ac = 0) → Dom.cost x ≤ 500000 →
    Calls Try.prog 12 #[.pointer (some ⟨R, 0, none⟩), .agg #[.int .u8 x.kind, .int .u8 x.space, .string (bs x.name), .slice aa an ac, .string (bs x.text), .slice ka kn kc]] w fun e w' => e = .returned (.int .i64 (Dom.makeT t x).2) ∧ TurnedP P w w' base R S (Dom.makeT t x).1
  copy : ∀ (w : World) (base R : Nat) (S : Nat → Prop) (t : Dom.T) (i : Int), EW w → P w base R S t → Dom.Good t → Fit t → base ≤ w.heap.size →
    Calls Try.prog 15 #[.pointer (some ⟨R, 0, none⟩), .int .i64 i] w fun e w' => e = .returned (.int .i64 (Dom.copyT t i).2) ∧ TurnedP P w w' base R S (Dom.copyT t i).1
  put : ∀ (w : World) (base R : Nat) (S : Nat → Prop) (t : Dom.T) (p b i : Int), EW w → P w base R S t → Dom.Good t → Fit t → base ≤ w.heap.size →
    Calls Try.prog 17 #[.pointer (some ⟨R, 0, none⟩), .int .i64 p, .int .i64 b, .int .i64 i] w fun e w' => e = .returned (.bool (Dom.putT t p b i).2) ∧ TurnedP P w w' base R S (Dom.putT t p b i).1
  cut : ∀ (w : World) (base R : Nat) (S : Nat → Prop) (t : Dom.T) (i : Int), EW w → P w base R S t → Dom.Good t → Fit t → base ≤ w.heap.size →
    Calls Try.prog 19 #[.pointer (some ⟨R, 0, none⟩), .int .i64 i] w fun e w' => e = .returned (.bool (Dom.cutT t i).2) ∧ TurnedP P w w' base R S (Dom.cutT t i).1
  move : ∀ (w : World) (base R : Nat) (S : Nat → Prop) (t : Dom.T) (a b : Int), EW w → P w base R S t → Dom.Good t → Fit t → base ≤ w.heap.size →
    Calls Try.prog 21 #[.pointer (some ⟨R, 0, none⟩), .int .i64 a, .int .i64 b] w fun e w' => e = .returned (.bool (Dom.moveT t a b).2) ∧ TurnedP P w w' base R S (Dom.moveT t a b).1
  write : ∀ (w : World) (base R : Nat) (S : Nat → Prop) (t : Dom.T) (p b : Int) (s : List UInt8), EW w → P w base R S t → Dom.Good t → Fit t → base ≤ w.heap.size → s.length ≤ 4000000 →
    Calls Try.prog 23 #[.pointer (some ⟨R, 0, none⟩), .int .i64 p, .int .i64 b, .string (bs s)] w fun e w' => e = .returned (.bool (Dom.writeT t p b s).2) ∧ TurnedP P w w' base R S (Dom.writeT t p b s).1
  parent : ∀ (w : World) (base R : Nat) (S : Nat → Prop) (t : Dom.T) (i : Int), EW w → P w base R S t → Dom.Good t → Fit t →
    Calls Try.prog 48 #[.pointer (some ⟨R, 0, none⟩), .int .i64 i] w fun e w' => e = .returned (.int .i64 (Dom.parentT t i)) ∧ Below w.heap.size w w'
  kids : ∀ (w : World) (base R : Nat) (S : Nat → Prop) (t : Dom.T) (i : Int), EW w → P w base R S t → Dom.Good t → Fit t →
    Calls Try.prog 33 #[.pointer (some ⟨R, 0, none⟩), .int .i64 i] w fun e w' => NewZO w w' e (Dom.kidsT t i) ∧ Below w.heap.size w w'
  whole : ∀ (t : Dom.T), Dom.Good t → Fit t → ∃ D, ∀ d, D < d → ∀ (w : World) (base R : Nat) (S : Nat → Prop), EW w → P w base R S t →
    Calls Try.prog 32 #[.pointer (some ⟨R, 0, none⟩), .int .i64 0] w fun e w' => NewD d w w' e (Dom.wholeF d t 0) ∧ Below w.heap.size w w'
theorem DomC.below {EW : World → Prop} {P : World → Nat → Nat → (Nat → Prop) → Dom.T → Prop} (H : DomC EW P) {w w' : World} {base R : Nat} {S : Nat → Prop} {t : Dom.T} (h : P w base R S t) (hb : Below w.heap.size w w') : P w' base R S t :=
  H.keep (Q := fun _ => False) (Q' := fun _ => False) h ⟨hb.os, hb.tape, hb.output, hb.size, fun k hk _ => hb.block k hk, fun _ e => .inl e⟩ (fun _ _ e => e)
/-- What the program's Same is known to tell. -/
def DomSameC (EW : World → Prop) : Prop := ∀ (d : Nat) (S1 S2 : Nat → Prop) (ns ms : List Dom.N) (a1 : Option Addr) (n1 c1 : Nat) (a2 : Option Addr) (n2 c2 : Nat) (w : World), EW w → IsN S1 d w a1 n1 ns → IsN S2 d w a2 n2 ms → Dom.sumW d ns ≤ 100000 → Dom.sumW d ms ≤ 100000 →
  Calls Try.prog 27 #[.slice a1 n1 c1, .slice a2 n2 c2] w fun e w' => e = .returned (.bool (Dom.sameB d ns ms)) ∧ Below w.heap.size w w'
/-- What the program's Print is known to tell. -/
def DomPrintC (EW : World → Prop) : Prop := ∀ (d : Nat) (S : Nat → Prop) (ns : List Dom.N) (a : Option Addr) (n c : Nat) (w : World), EW w → IsN S d w a n ns → Dom.sumW d ns ≤ 100000 →
  Calls Try.prog 29 #[.slice a n c] w fun e w' => e = .returned (.string (bs (Dom.linesP d ns []))) ∧ Below w.heap.size w w'
/-- The chapter's example. -/
def DomKnownC (EW : World → Prop) : Prop := ∀ (w : World), EW w →
  Calls Try.prog 8 #[] w fun e w' => e = .returned (.bool true) ∧ Below w.heap.size w w'
end Go.Proofs.Ythbklcpjbeelhaa
namespace Go.Proofs.Ythbklcpjbeelhaa
open Go.RowKit Go.Lib
set_option maxRecDepth 100000
set_option linter.unusedVariables false

/-- It is that node: attributes from lo up to mid, kids from mid up to hi. -/
structure FitsD (lo mid hi d : Nat) (w : World) (r : NodeR) (x : Dom.N) : Prop where
  kind : r.kind = x.kind
  space : r.space = x.space
  name : r.name = x.name
  text : r.text = x.text
  atts : IsA w r.aa r.an x.atts
  inS : InS (fun k => lo ≤ k ∧ k < mid) r.aa r.an
  own : OwnB w 67 r.aa r.an
  kids : IsD d w mid hi r.ka r.kn x.kids
  anil : r.aa = none → r.ac = 0
  knil : r.ka = none → r.kc = 0
theorem FitsD.keep {lo mid hi d : Nat} {w w' : World} {r : NodeR} {x : Dom.N} (h : FitsD lo mid hi d w r x) (h1 : lo ≤ mid) (h2 : mid ≤ hi) (hk : ∀ k, lo ≤ k → k < hi → w'.heap[k]? = w.heap[k]?) : FitsD lo mid hi d w' r x := by
  have ka : ∀ k, lo ≤ k ∧ k < mid → w'.heap[k]? = w.heap[k]? := fun k q => hk k q.1 (by omega)
  exact ⟨h.kind, h.space, h.name, h.text, isA_in h.atts h.inS ka, h.inS, h.own.keep h.inS ka, h.kids.keep (fun k q1 q2 => hk k (by omega) q2), h.anil, h.knil⟩
/-- A list of nodes that the call itself made: all apart, the nodes' own blocks below B. -/
def OwnD (w : World) (base B d : Nat) (v : Value) (xs : List Dom.N) : Prop := ∃ (rs : List NodeR) (f g t : Nat → Nat), w.ownsRow base 32 6 v xs.length (nodeL rs) ∧ rs.length = xs.length ∧ base ≤ f 0 ∧ f xs.length ≤ B ∧ (∀ b, v.ownBlock = some b → b < B) ∧
  (∀ i, i < xs.length → f i ≤ g i ∧ g i ≤ t i ∧ t i ≤ f (i + 1) ∧ ∀ b, v.ownBlock = some b → (b < f i ∨ t i ≤ b)) ∧ ∀ (i : Nat) r x, rs[i]? = some r → xs[i]? = some x → FitsD (f i) (g i) (t i) d w r x
theorem OwnD.nil (w : World) (base d : Nat) {B : Nat} (hB : base ≤ B) : OwnD w base B d (.slice none 0 0) [] := ⟨[], fun _ => base, fun _ => base, fun _ => base, World.ownsRow_nil _ _ _ _, rfl, Nat.le_refl _, hB, (fun b e => (by simp [Value.ownBlock] at e)), (fun i hi => (by cases hi)), (fun i r x h => (by simp at h))⟩
theorem OwnD.wide {w : World} {base B B' d : Nat} {v : Value} {xs : List Dom.N} (h : OwnD w base B d v xs) (hB : B ≤ B') : OwnD w base B' d v xs := by
  obtain ⟨rs, f, g, t, h1, h2, h3, h4, h5, h6, h7⟩ := h
  exact ⟨rs, f, g, t, h1, h2, h3, by omega, fun b e => by have := h5 b e; omega, h6, h7⟩
theorem OwnD.below {w w' : World} {base B d : Nat} {v : Value} {xs : List Dom.N} (h : OwnD w base B d v xs) (hb : Below w.heap.size w w') (hB : B ≤ w.heap.size) : OwnD w' base B d v xs := by
  obtain ⟨rs, f, g, t, h1, h2, h3, h4, h5, h6, h7⟩ := h
  refine ⟨rs, f, g, t, own_below h1 hb, h2, h3, h4, h5, h6, fun i r x hr hx => ?_⟩
  have hi : i < xs.length := (List.getElem?_eq_some_iff.1 hx).1
  have := h6 i hi
  have := mono_le (f := f) (n := xs.length) (fun i hi => by have := h6 i hi; omega) (show i + 1 ≤ xs.length by omega) (Nat.le_refl _)
  exact (h7 i r x hr hx).keep (by omega) (by omega) fun k q1 q2 => hb.block k (by omega)
/-- 'append(out, x)', out the call's own. -/
theorem append_D {w : World} {ops : Array Oper} {rest : List Oper} {o : Oper} {a : Act} {Q : Exit → Act → World → Prop} (hgd : o.guard = none) (s x : Operand)
    (ho : o.op = .call { callee := .builtin .append, args := #[s, x], argTypes := #[30, 30] })
    (base B d : Nat) (v : Value) (xs : List Dom.N) (hs : a.eval s = v) (hown : OwnD w base B d v xs) (F G T : Nat) (hBF : B ≤ F) (hFG : F ≤ G) (hGT : G ≤ T) (hT : T ≤ w.heap.size)
    (ad : Addr) (c : Nat) (r : NodeR) (y : Dom.N) (hx : a.eval x = .slice (some ad) 1 c) (hnew : ∀ j, j < 6 → w.cell? (ad.add j) = (nodeRow r)[j]?) (hf : FitsD F G T d w r y)
    (hlen : xs.length + 1 ≤ 1000000000) (hbase : base ≤ w.heap.size)
    (h : ∀ v' w', OwnD w' base w'.heap.size d v' (xs ++ [y]) → w.grownBy w' v.ownBlock → wpList Try.prog ops Q rest (a.put o.dst v') w') : wpList Try.prog ops Q (o :: rest) a w := by
  obtain ⟨i0, hi, hz0, hz1, hz2⟩ := info_parts info_node
  obtain ⟨rs, f, g, t, h1, h2, h3, h4, h5, h6, h7⟩ := hown
  refine wpList_append_own_at w hgd s x 30 ho base 32 i0 (.agg #[.int .u8 0, .int .u8 0, .string ⟨#[]⟩, .slice none 0 0, .string ⟨#[]⟩, .slice none 0 0]) 6 88 Try.underlying30 hi hz0 hz1 hz2 rfl (by decide) v xs.length (nodeL rs) hs h1 ad 1 c (nodeL [r]) hx rfl ?_ (node_one [r]) (by unfold maxLen; omega) (by omega) hbase ?_
  · intro j u hj
    by_cases hj6 : j < 6
    · rw [hnew j hj6, ← hj]
      have := nodeL_get [r] 0 r rfl j hj6
      rw [Nat.zero_mul, Nat.zero_add] at this
      exact this.symm
    · rw [List.getElem?_eq_none (by rw [nodeL_len]; simp; omega)] at hj
      cases hj
  · intro v' w' g1 g2 _ g4
    have hsz : w.heap.size ≤ w'.heap.size := g2.size
    have hmono := fun i (hi : i ≤ xs.length) => mono_le (f := f) (n := xs.length) (fun i hi => by have := h6 i hi; omega) hi (Nat.le_refl _)
    have hold : ∀ b, v'.ownBlock = some b → b < w'.heap.size := fun b e => by
      obtain ⟨_, ⟨rfl, h0⟩ | ⟨g', cap, cur, rfl, hb', hg', _⟩⟩ := g1
      · simp [Value.ownBlock] at e
      · simp [Value.ownBlock] at e
        subst e
        rcases Nat.lt_or_ge g' w'.heap.size with q | q
        · exact q
        · rw [Array.getElem?_eq_none q] at hg'
          cases hg'
    have hfar : ∀ p q, p ≤ q → q ≤ w.heap.size → (∀ b, v.ownBlock = some b → (b < p ∨ q ≤ b)) → ∀ b, v'.ownBlock = some b → (b < p ∨ q ≤ b) := fun p q hpq hq hp b e => by
      rcases g4 with e2 | e2
      · rw [e2] at e
        exact hp b e
      · rw [e2] at e
        have := Option.some.inj e
        omega
    have hkeep : ∀ p q, q ≤ w.heap.size → (∀ b, v.ownBlock = some b → (b < p ∨ q ≤ b)) → ∀ k, p ≤ k → k < q → w'.heap[k]? = w.heap[k]? := fun p q hq hp k k1 k2 => g2.block k (by omega) (fun e => by have := hp k e.symm; omega)
    have hnewfar : ∀ b, v.ownBlock = some b → (b < F ∨ T ≤ b) := fun b e => .inl (by have := h5 b e; omega)
    refine h v' w' ⟨rs ++ [r], fun i => if i < xs.length then f i else if i = xs.length then F else w'.heap.size, fun i => if i < xs.length then g i else G, fun i => if i < xs.length then t i else T, ?_, by rw [List.length_append, List.length_append, h2]; rfl, ?_, ?_, hold, ?_, ?_⟩ g2
    · rw [List.length_append, nodeL_append]
      exact g1
    · show base ≤ if 0 < xs.length then f 0 else if 0 = xs.length then F else w'.heap.size
      have := hmono 0 (Nat.zero_le _)
      split
      · exact h3
      · split <;> omega
    · rw [List.length_append, List.length_singleton]
      show (if xs.length + 1 < xs.length then _ else if xs.length + 1 = xs.length then F else w'.heap.size) ≤ _
      rw [if_neg (by omega), if_neg (by omega)]
      exact Nat.le_refl _
    · intro i hi'
      rw [List.length_append, List.length_singleton] at hi'
      by_cases e : i < xs.length
      · have q := h6 i e
        have q2 := hmono (i + 1) (by omega)
        have q3 := hfar (f i) (t i) (by omega) (by omega) q.2.2.2
        show (if i < xs.length then f i else _) ≤ (if i < xs.length then g i else G) ∧ (if i < xs.length then g i else G) ≤ (if i < xs.length then t i else T) ∧ (if i < xs.length then t i else T) ≤ (if i + 1 < xs.length then f (i + 1) else if i + 1 = xs.length then F else w'.heap.size) ∧ ∀ b, v'.ownBlock = some b → (b < (if i < xs.length then f i else _) ∨ (if i < xs.length then t i else T) ≤ b)
        rw [if_pos e, if_pos e, if_pos e]
        refine ⟨q.1, q.2.1, ?_, q3⟩
        split
        · exact q.2.2.1
        · rw [if_pos (by omega)]
          omega
      · obtain rfl : i = xs.length := by omega
        have q3 := hfar F T (by omega) hT hnewfar
        show (if xs.length < xs.length then _ else if xs.length = xs.length then F else _) ≤ (if xs.length < xs.length then _ else G) ∧ (if xs.length < xs.length then _ else G) ≤ (if xs.length < xs.length then _ else T) ∧ (if xs.length < xs.length then _ else T) ≤ (if xs.length + 1 < xs.length then _ else if xs.length + 1 = xs.length then F else w'.heap.size) ∧ ∀ b, v'.ownBlock = some b → (b < (if xs.length < xs.length then _ else if xs.length = xs.length then F else _) ∨ (if xs.length < xs.length then _ else T) ≤ b)
        rw [if_neg (Nat.lt_irrefl _), if_pos rfl, if_neg (Nat.lt_irrefl _), if_neg (Nat.lt_irrefl _), if_neg (by omega), if_neg (by omega)]
        exact ⟨hFG, hGT, by omega, q3⟩
    · intro i r' x' hr hx'
      rcases Nat.lt_or_ge i rs.length with hlt | hge
      · rw [List.getElem?_append_left hlt] at hr
        rw [List.getElem?_append_left (by omega)] at hx'
        have e : i < xs.length := by omega
        have q := h6 i e
        have q2 := hmono (i + 1) (by omega)
        show FitsD (if i < xs.length then f i else _) (if i < xs.length then g i else G) (if i < xs.length then t i else T) d w' r' x'
        rw [if_pos e, if_pos e, if_pos e]
        exact (h7 i r' x' hr hx').keep q.1 q.2.1 (hkeep (f i) (t i) (by omega) q.2.2.2)
      · rw [List.getElem?_append_right hge] at hr
        rw [List.getElem?_append_right (by omega), ← h2] at hx'
        by_cases hz : i - rs.length = 0
        · rw [hz] at hr hx'
          simp at hr hx'
          subst hr; subst hx'
          obtain rfl : i = xs.length := by omega
          show FitsD (if xs.length < xs.length then _ else if xs.length = xs.length then F else _) (if xs.length < xs.length then _ else G) (if xs.length < xs.length then _ else T) d w' _ _
          rw [if_neg (Nat.lt_irrefl _), if_pos rfl, if_neg (Nat.lt_irrefl _), if_neg (Nat.lt_irrefl _)]
          exact hf.keep hFG hGT (hkeep F T hT hnewfar)
        · rw [List.getElem?_eq_none (by simp; omega)] at hr
          cases hr
/-- What is owned is a list of nodes, all apart. -/
theorem own_isD {w : World} {base B d : Nat} {v : Value} {xs : List Dom.N} (h : OwnD w base B d v xs) : ∃ a cap, v = .slice a xs.length cap ∧ IsD (d + 1) w base B a xs.length xs ∧ (a = none → cap = 0) := by
  obtain ⟨rs, f, g, t, ⟨_, ⟨rfl, h0⟩ | ⟨b, cap, cur, rfl, hb, hg, hn, hc, hcs, ht⟩⟩, h2, h3, h4, h5, h6, h7⟩ := h
  · exact ⟨none, 0, by rw [h0], ⟨rfl, .inl h0⟩, fun _ => rfl⟩
  · have hbB := h5 b rfl
    refine ⟨_, cap, rfl, ⟨rfl, .inr ⟨b, _, f, g, t, rfl, hg, hb, hbB, h3, h4, fun i hi => ⟨(h6 i hi).1, (h6 i hi).2.1, (h6 i hi).2.2.1, (h6 i hi).2.2.2 b rfl⟩, fun i x hi => ?_⟩⟩, fun e => by cases e⟩
    have hix : i < xs.length := (List.getElem?_eq_some_iff.1 hi).1
    obtain ⟨r, hr⟩ : ∃ r, rs[i]? = some r := ⟨_, List.getElem?_eq_getElem (by omega)⟩
    have hf := h7 i r x hr hi
    have cells : ∀ j, j < 6 → w.cell? ⟨b, i * 6 + j, none⟩ = (nodeRow r)[j]? := by
      intro j hj
      have h1 := nodeL_get rs i r hr j hj
      rw [← ht, List.getElem?_take_of_lt (by omega)] at h1
      rw [← h1]
      simp only [World.cell?, hg]
      simp
    have c0 := cells 0 (by omega)
    have c1 := cells 1 (by omega)
    have c2 := cells 2 (by omega)
    have c3 := cells 3 (by omega)
    have c4 := cells 4 (by omega)
    have c5 := cells 5 (by omega)
    simp only [nodeRow, Nat.add_zero, List.getElem?_cons_zero, List.getElem?_cons_succ, hf.kind, hf.space, hf.name, hf.text] at c0 c1 c2 c3 c4 c5
    exact ⟨r.aa, r.an, r.ac, r.ka, r.kn, r.kc, ⟨c0, c1, c2, c3, c4, c5, hf.atts, hf.inS, hf.kids, hf.anil, hf.knil⟩, hf.own⟩
end Go.Proofs.Ythbklcpjbeelhaa
