/- The program's tree in memory: the tree's block, the row of its nodes, each text in a row of its own, all apart; S: the blocks that are the tree's. What its nodes know of each other stands in rs alone. -/
import Derived.Test.YtlgmjnnfndedbaaDomC
import Derived.Test.YtlgmjnnfndedbaaLinkPl
import Derived.Test.YtlgmjnnfndedbaaOwnM
namespace Go.Proofs.Ytlgmjnnfndedbaa
open Go.RowKit Go.Lib
set_option maxRecDepth 100000
set_option linter.unusedVariables false

/-- One of the tree as it lies in memory. -/
structure PR where
  nd : Dom.N
  ad : Option Addr
  an : Nat
  ac : Nat
  tv : Value
  lk : Dom.Lk
def PR.with (r : PR) (l : Dom.Lk) : PR := { r with lk := l }
def rowP (r : PR) : List Value := [.int .u8 r.nd.kind, .int .u8 r.nd.space, .string (bs r.nd.name), .slice r.ad r.an r.ac, r.tv, .int .i64 r.lk.par, .int .i64 r.lk.first, .int .i64 r.lk.last, .int .i64 r.lk.prev, .int .i64 r.lk.next]
def rowsP (rs : List PR) : List Value := rs.flatMap rowP
theorem rowP_len (r : PR) : (rowP r).length = 10 := rfl
theorem rowsP_append (a b : List PR) : rowsP (a ++ b) = rowsP a ++ rowsP b := by simp [rowsP]
theorem rowsP_at : ∀ (rs : List PR) (k : Nat), (rowsP rs)[k]? = (rs[k / 10]?).bind fun r => (rowP r)[k % 10]?
  | [], k => by simp [rowsP]
  | r :: t, k => by
    show (rowP r ++ rowsP t)[k]? = _
    by_cases hk : k < 10
    · rw [List.getElem?_append_left (by show k < 10; exact hk), show k / 10 = 0 by omega, show k % 10 = k by omega]
      rfl
    · rw [List.getElem?_append_right (by show 10 ≤ k; omega), show k - (rowP r).length = k - 10 from rfl, rowsP_at t (k - 10), show k / 10 = (k - 10) / 10 + 1 by omega, show k % 10 = (k - 10) % 10 by omega]
      rfl
theorem rowsP_len : ∀ rs : List PR, (rowsP rs).length = rs.length * 10
  | [] => rfl
  | r :: t => by
    show (rowP r ++ rowsP t).length = _
    rw [List.length_append, rowsP_len t, List.length_cons]
    show 10 + _ = _
    omega
theorem rowsP_get {rs : List PR} {i : Nat} {r : PR} (h : rs[i]? = some r) (j : Nat) (hj : j < 10) : (rowsP rs)[i * 10 + j]? = (rowP r)[j]? := by
  rw [rowsP_at, show (i * 10 + j) / 10 = i by omega, show (i * 10 + j) % 10 = j by omega, h]
  rfl
theorem rowsP_set {rs : List PR} {i j : Nat} {r r' : PR} {u : Value} (h : rs[i]? = some r) (hj : j < 10) (hr : rowP r' = (rowP r).set j u) : rowsP (rs.set i r') = (rowsP rs).set (i * 10 + j) u := by
  have hi : i < rs.length := (List.getElem?_eq_some_iff.1 h).1
  apply List.ext_getElem?
  intro k
  rw [rowsP_at, List.getElem?_set, List.getElem?_set, rowsP_len]
  by_cases h1 : i = k / 10
  · rw [if_pos h1, if_pos (by omega)]
    by_cases h2 : i * 10 + j = k
    · rw [if_pos h2, if_pos (by omega)]
      show (rowP r')[k % 10]? = _
      rw [hr, show k % 10 = j by omega, List.getElem?_set, if_pos rfl, if_pos (by show j < 10; exact hj)]
    · rw [if_neg h2, rowsP_at, ← h1, h]
      show (rowP r')[k % 10]? = (rowP r)[k % 10]?
      rw [hr, List.getElem?_set, if_neg (by omega)]
  · rw [if_neg h1, if_neg (by omega), rowsP_at]
theorem rowP_one (r : PR) (hk : r.tv.oneCell' = true) : ∀ u ∈ rowP r, u.oneCell' = true := by
  intro u hu
  simp [rowP] at hu
  rcases hu with rfl | rfl | rfl | rfl | rfl | rfl | rfl | rfl | rfl | rfl <;> first | rfl | exact hk
/-- Its attributes and its text lie there, in blocks of S. -/
structure FitsP (w : World) (base : Nat) (S : Nat → Prop) (r : PR) : Prop where
  atts : IsA w r.ad r.an r.nd.atts
  typ : TypB w r.ad
  inS : ∀ p, r.ad = some p → S p.block
  anil : r.ad = none → r.ac = 0
  text : OwnM w base r.tv r.nd.text
  tS : ∀ g, r.tv.ownBlock = some g → S g
/-- The tree at R: v the row of its nodes, rs what they are. -/
structure TreeL (w : World) (base R : Nat) (S : Nat → Prop) (v : Value) (rs : List PR) : Prop where
  top : BlkW w R #[v] 89
  rS : S R
  own : w.ownsRow base 86 10 v rs.length (rowsP rs)
  vS : ∀ g, v.ownBlock = some g → S g
  fits : ∀ (i : Nat) r, rs[i]? = some r → FitsP w base S r
  apart : ∀ (i j : Nat) ri rj, i ≠ j → rs[i]? = some ri → rs[j]? = some rj → ∀ g, ri.tv.ownBlock = some g → rj.tv.ownBlock ≠ some g
  inb : ∀ k, S k → base ≤ k ∧ k < w.heap.size
theorem FitsP.keep {w w' : World} {base : Nat} {S S' : Nat → Prop} {r : PR} (h : FitsP w base S r) (hS : ∀ k, S k → S' k) (hk : ∀ k, S k → w'.heap[k]? = w.heap[k]?) : FitsP w' base S' r :=
  ⟨isA_in h.atts (S := S) (.inr h.inS) hk, h.typ.heap fun p hp => hk _ (h.inS p hp), fun p hp => hS _ (h.inS p hp), h.anil, h.text.keep fun g hg => hk g (h.tS g hg), fun g hg => hS g (h.tS g hg)⟩
/-- It stands where its blocks stand as they stood. -/
theorem TreeL.keep {w w' : World} {base R : Nat} {S S' : Nat → Prop} {v : Value} {rs : List PR} (h : TreeL w base R S v rs) (hS : ∀ k, S k → S' k) (hk : ∀ k, S k → w'.heap[k]? = w.heap[k]?) (hb : ∀ k, S' k → base ≤ k ∧ k < w'.heap.size) : TreeL w' base R S' v rs :=
  ⟨(hk R h.rS).trans h.top, hS R h.rS, own_keep h.own fun g hg => hk g (h.vS g hg), fun g hg => hS g (h.vS g hg), fun i r hr => (h.fits i r hr).keep hS hk, h.apart, hb⟩
theorem TreeL.below {w w' : World} {base R : Nat} {S : Nat → Prop} {v : Value} {rs : List PR} (h : TreeL w base R S v rs) (hb : Below w.heap.size w w') : TreeL w' base R S v rs :=
  h.keep (fun _ hk => hk) (fun k hk => hb.block k (h.inb k hk).2) fun k hk => ⟨(h.inb k hk).1, by have := hb.size; have := (h.inb k hk).2; omega⟩
/-- Where the row lies. -/
theorem TreeL.addr {w : World} {base R : Nat} {S : Nat → Prop} {v : Value} {rs : List PR} (h : TreeL w base R S v rs) (h0 : rs ≠ []) : ∃ g cap, v = .slice (some ⟨g, 0, none⟩) rs.length cap ∧ rs.length ≤ cap := by
  obtain ⟨g, cap, rfl, hnc⟩ := own_addr h.own (by have := List.length_pos_iff.2 h0; omega)
  exact ⟨g, cap, rfl, hnc⟩
theorem TreeL.cellj {w : World} {base R g n cap : Nat} {S : Nat → Prop} {rs : List PR} (h : TreeL w base R S (.slice (some ⟨g, 0, none⟩) n cap) rs) {i : Nat} {r : PR} (hr : rs[i]? = some r) (j : Nat) (u : Value) (hj : j < 10) (hu : (rowP r)[j]? = some u) : w.cell? ⟨g, i * 10 + j, none⟩ = some u := by
  have := h.own.cells (g := g) rfl (i * 10 + j) u (by rw [rowsP_get hr j hj]; exact hu)
  rwa [addr_add, Nat.zero_add] at this
/-- The ten cells of a node. -/
structure CellsP (w : World) (g i : Nat) (r : PR) : Prop where
  c0 : w.cell? ⟨g, i * 10, none⟩ = some (.int .u8 r.nd.kind)
  c1 : w.cell? ⟨g, i * 10 + 1, none⟩ = some (.int .u8 r.nd.space)
  c2 : w.cell? ⟨g, i * 10 + 2, none⟩ = some (.string (bs r.nd.name))
  c3 : w.cell? ⟨g, i * 10 + 3, none⟩ = some (.slice r.ad r.an r.ac)
  c4 : w.cell? ⟨g, i * 10 + 4, none⟩ = some r.tv
  c5 : w.cell? ⟨g, i * 10 + 5, none⟩ = some (.int .i64 r.lk.par)
  c6 : w.cell? ⟨g, i * 10 + 6, none⟩ = some (.int .i64 r.lk.first)
  c7 : w.cell? ⟨g, i * 10 + 7, none⟩ = some (.int .i64 r.lk.last)
  c8 : w.cell? ⟨g, i * 10 + 8, none⟩ = some (.int .i64 r.lk.prev)
  c9 : w.cell? ⟨g, i * 10 + 9, none⟩ = some (.int .i64 r.lk.next)
theorem TreeL.cells {w : World} {base R g n cap : Nat} {S : Nat → Prop} {rs : List PR} (h : TreeL w base R S (.slice (some ⟨g, 0, none⟩) n cap) rs) {i : Nat} {r : PR} (hr : rs[i]? = some r) : CellsP w g i r :=
  ⟨h.cellj hr 0 _ (by decide) rfl, h.cellj hr 1 _ (by decide) rfl, h.cellj hr 2 _ (by decide) rfl, h.cellj hr 3 _ (by decide) rfl, h.cellj hr 4 _ (by decide) rfl, h.cellj hr 5 _ (by decide) rfl, h.cellj hr 6 _ (by decide) rfl, h.cellj hr 7 _ (by decide) rfl, h.cellj hr 8 _ (by decide) rfl, h.cellj hr 9 _ (by decide) rfl⟩
theorem TreeL.free {w : World} {base R g n cap : Nat} {S : Nat → Prop} {rs : List PR} (h : TreeL w base R S (.slice (some ⟨g, 0, none⟩) n cap) rs) (k : Nat) : w.frozen? ⟨g, k, none⟩ = false := by
  obtain ⟨cs, hc⟩ := own_cells h.own (g := g) rfl
  exact hc.free k
theorem pnode_ne_tree : (86 : TypeId) ≠ 89 := by decide
theorem pnode_ne_attr : (86 : TypeId) ≠ 91 := by decide
theorem pnode_ne_u8 : (86 : TypeId) ≠ 5 := by decide
theorem TreeL.gR {w : World} {base R g : Nat} {S : Nat → Prop} {v : Value} {rs : List PR} (h : TreeL w base R S v rs) (hv : v.ownBlock = some g) : g ≠ R := by
  obtain ⟨cs, hc⟩ := own_cells h.own hv
  exact blk_ne hc h.top pnode_ne_tree
/-- A node's cell is stored in the nodes' row. -/
theorem TreeL.cell {w : World} {base R g : Nat} {S S' : Nat → Prop} {v : Value} {rs : List PR} (h : TreeL w base R S v rs) (hv : v.ownBlock = some g) {i j : Nat} {r r' : PR} {u : Value}
    (hr : rs[i]? = some r) (hj : j < 10) (hrow : rowP r' = (rowP r).set j u) (hfit : FitsP w base S' r') (hS : ∀ k, S k → S' k) (hb : ∀ k, S' k → base ≤ k ∧ k < w.heap.size)
    (hap : ∀ (k : Nat) rk, k ≠ i → rs[k]? = some rk → ∀ b, rk.tv.ownBlock = some b → r'.tv.ownBlock ≠ some b) :
    TreeL (w.setCell ⟨g, i * 10 + j, none⟩ u) base R S' v (rs.set i r') := by
  obtain ⟨cs, hg⟩ := own_cells h.own hv
  have hi : i < rs.length := (List.getElem?_eq_some_iff.1 hr).1
  have far : ∀ {r : PR}, FitsP w base S' r → FitsP (w.setCell ⟨g, i * 10 + j, none⟩ u) base S' r := fun {r} F =>
    ⟨isA_in F.atts (S := fun k => k ≠ g) (.inr fun p hp => F.typ.ne hg pnode_ne_attr p hp) fun k hk => Below.heap_setCell _ _ _ _ hk, F.typ.heap fun p hp => Below.heap_setCell _ _ _ _ (F.typ.ne hg pnode_ne_attr p hp), F.inS, F.anil,
      F.text.keep fun b hb => Below.heap_setCell _ _ _ _ (by obtain ⟨ds, fr, hd⟩ := F.text.cells hb; exact (blk_neM hg hd pnode_ne_u8).symm), F.tS⟩
  refine ⟨h.top.far _ _ (blk_ne hg h.top pnode_ne_tree), hS R h.rS, ?_, fun b hb => hS b (h.vS b hb), fun k rk hrk => ?_, fun a b ra rb hab hra hrb c hc => ?_, fun k hk => by have := hb k hk; exact ⟨this.1, by simp [World.setCell]; exact this.2⟩⟩
  · rw [rowsP_set hr hj hrow, List.length_set]
    exact own_set h.own hv _ u
  · rw [List.getElem?_set] at hrk
    split at hrk
    · rename_i e
      subst e
      injection hrk with hrk
      subst hrk
      exact far hfit
    · rename_i e
      exact far ((h.fits k rk hrk).keep hS fun _ _ => rfl)
  · rw [List.getElem?_set] at hra hrb
    split at hra
    · rename_i e
      subst e
      injection hra with hra
      subst hra
      rw [if_neg hab] at hrb
      intro e2
      exact hap b rb (fun e3 => hab e3.symm) hrb c e2 hc
    · split at hrb
      · rename_i e1 e
        subst e
        injection hrb with hrb
        subst hrb
        exact hap a ra hab hra c hc
      · exact h.apart a b ra rb hab hra hrb c hc
/-- What a node knows of those about it. -/
def lkOf (rs : List PR) : Dom.Lks := fun i => ((rs[i]?).map (·.lk)).getD Dom.Lk.none
theorem lkOf_get {rs : List PR} {i : Nat} {r : PR} (h : rs[i]? = some r) : lkOf rs i = r.lk := by simp [lkOf, h]
theorem lkOf_set {rs : List PR} {i : Nat} {r : PR} (h : rs[i]? = some r) (f : Dom.Lk → Dom.Lk) : lkOf (rs.set i (r.with (f r.lk))) = Dom.setL (lkOf rs) i f := by
  funext k
  have hi : i < rs.length := (List.getElem?_eq_some_iff.1 h).1
  unfold lkOf Dom.setL
  rw [List.getElem?_set]
  by_cases e : i = k
  · subst e
    rw [if_pos rfl, if_pos hi, if_pos rfl]
    show (r.with (f r.lk)).lk = f ((Option.map (fun x => x.lk) rs[i]?).getD Dom.Lk.none)
    rw [h]
    rfl
  · rw [if_neg e, if_neg (fun g => e g.symm)]
/-- Only what they know of each other has turned. -/
structure Lked (w w' : World) (base R : Nat) (S : Nat → Prop) (v : Value) (rs rs' : List PR) (f : Dom.Lks) : Prop where
  tree : TreeL w' base R S v rs'
  len : rs'.length = rs.length
  at_ : ∀ (i : Nat) r, rs[i]? = some r → ∃ l, rs'[i]? = some (r.with l)
  lks : lkOf rs' = f
  turn : Turn S S w w'
theorem Lked.refl {w : World} {base R : Nat} {S : Nat → Prop} {v : Value} {rs : List PR} (h : TreeL w base R S v rs) : Lked w w base R S v rs rs (lkOf rs) :=
  ⟨h, rfl, fun i r hr => ⟨r.lk, hr⟩, rfl, Turn.refl _ _⟩
theorem Lked.trans {w w1 w2 : World} {base R : Nat} {S : Nat → Prop} {v : Value} {rs rs1 rs2 : List PR} {f g : Dom.Lks} (h : Lked w w1 base R S v rs rs1 f) (k : Lked w1 w2 base R S v rs1 rs2 g) : Lked w w2 base R S v rs rs2 g :=
  ⟨k.tree, k.len.trans h.len, fun i r hr => by
    obtain ⟨l, hl⟩ := h.at_ i r hr
    obtain ⟨l2, hl2⟩ := k.at_ i _ hl
    exact ⟨l2, hl2⟩, k.lks, h.turn.trans k.turn⟩
/-- One of a node's five numbers is stored. -/
theorem Lked.store {w w1 : World} {base R g : Nat} {S : Nat → Prop} {v : Value} {rs rs1 : List PR} {f : Dom.Lks} (h : Lked w w1 base R S v rs rs1 f) (hv : v.ownBlock = some g) {i : Nat} (hi : i < rs.length) (j : Nat) (q : Int) (fn : Dom.Lk → Dom.Lk) (hj : j < 10)
    (hrow : ∀ r : PR, rowP (r.with (fn r.lk)) = (rowP r).set j (.int .i64 q)) : ∃ rs2, Lked w (w1.setCell ⟨g, i * 10 + j, none⟩ (.int .i64 q)) base R S v rs rs2 (Dom.setL f i fn) := by
  obtain ⟨r, hr⟩ : ∃ r, rs1[i]? = some r := ⟨_, List.getElem?_eq_getElem (by rw [h.len]; exact hi)⟩
  have F := h.tree.fits i r hr
  have T := h.tree.cell (S' := S) (r' := r.with (fn r.lk)) hv hr hj (hrow r) ⟨F.atts, F.typ, F.inS, F.anil, F.text, F.tS⟩ (fun _ e => e) h.tree.inb (fun k rk hk hrk b hb => h.tree.apart k i rk r hk hrk hr b hb)
  refine ⟨_, T, by rw [List.length_set]; exact h.len, fun k rk hrk => ?_, by rw [lkOf_set hr, h.lks], h.turn.set _ _ (.inl (h.tree.vS g hv))⟩
  obtain ⟨l, hl⟩ := h.at_ k rk hrk
  rw [List.getElem?_set]
  by_cases e : i = k
  · subst e
    rw [if_pos rfl, if_pos (by rw [h.len]; exact hi)]
    rw [hr] at hl
    injection hl with hl
    subst hl
    exact ⟨_, rfl⟩
  · rw [if_neg e]
    exact ⟨l, hl⟩
theorem Lked.node {w w1 : World} {base R : Nat} {S : Nat → Prop} {v : Value} {rs rs1 : List PR} {f : Dom.Lks} (h : Lked w w1 base R S v rs rs1 f) {i : Nat} (hi : i < rs.length) : ∃ r, rs1[i]? = some r ∧ r.lk = f i := by
  obtain ⟨r, hr⟩ : ∃ r, rs1[i]? = some r := ⟨_, List.getElem?_eq_getElem (by rw [h.len]; exact hi)⟩
  exact ⟨r, hr, by rw [← lkOf_get hr, h.lks]⟩
/-- It is that tree. -/
structure Models (rs : List PR) (t : Dom.T) : Prop where
  len : rs.length = t.length
  nds : ∀ (i : Nat) r, rs[i]? = some r → r.nd = (Dom.nodeAt t i).nd
  lks : Dom.Linked (lkOf rs) t
/-- The tree at R. -/
def TreeK (w : World) (base R : Nat) (S : Nat → Prop) (t : Dom.T) : Prop := ∃ v rs, TreeL w base R S v rs ∧ Models rs t
theorem TreeK.keep {w w' : World} {base R : Nat} {S Q Q' : Nat → Prop} {t : Dom.T} (h : TreeK w base R S t) (hT : Turn Q Q' w w') (hd : ∀ k, S k → ¬ Q k) : TreeK w' base R S t := by
  obtain ⟨v, rs, h, hm⟩ := h
  exact ⟨v, rs, h.keep (fun _ e => e) (fun k e => hT.block k (h.inb k e).2 (hd k e)) (fun k e => ⟨(h.inb k e).1, by have := (h.inb k e).2; have := hT.size; omega⟩), hm⟩
theorem TreeK.below {w w' : World} {base R : Nat} {S : Nat → Prop} {t : Dom.T} (h : TreeK w base R S t) (hb : Below w.heap.size w w') : TreeK w' base R S t := by
  obtain ⟨v, rs, h, hm⟩ := h
  exact ⟨v, rs, h.below hb, hm⟩
theorem TreeK.inb {w : World} {base R : Nat} {S : Nat → Prop} {t : Dom.T} (h : TreeK w base R S t) : ∀ k, S k → base ≤ k ∧ k < w.heap.size := by
  obtain ⟨v, rs, h, _⟩ := h
  exact h.inb
/-- What a call leaves that writes the tree. -/
def TurnedK (w w' : World) (base R : Nat) (S : Nat → Prop) (t : Dom.T) : Prop := ∃ S', TreeK w' base R S' t ∧ Turn S S' w w'
theorem TurnedK.same {w w' : World} {base R : Nat} {S : Nat → Prop} {t : Dom.T} (h : TreeK w base R S t) (hb : Below w.heap.size w w') : TurnedK w w' base R S t := ⟨S, h.below hb, Turn.of_below hb⟩
theorem Lked.models {w w' : World} {base R : Nat} {S : Nat → Prop} {v : Value} {rs rs' : List PR} {f : Dom.Lks} {t u : Dom.T} (h : Lked w w' base R S v rs rs' f) (hm : Models rs t) (hl : u.length = t.length) (hn : ∀ i, (Dom.nodeAt u i).nd = (Dom.nodeAt t i).nd) (hf : Dom.Linked f u) : TurnedK w w' base R S u := by
  refine ⟨S, ⟨v, rs', h.tree, by rw [h.len, hm.len, hl], fun i r hr => ?_, by rw [h.lks]; exact hf⟩, h.turn⟩
  have hi : i < rs.length := by rw [← h.len]; exact (List.getElem?_eq_some_iff.1 hr).1
  have h0 := List.getElem?_eq_getElem hi
  obtain ⟨l, e⟩ := h.at_ i _ h0
  rw [hr] at e
  injection e with e
  rw [hn, e]
  have h3 := hm.nds i _ h0
  exact h3
end Go.Proofs.Ytlgmjnnfndedbaa
