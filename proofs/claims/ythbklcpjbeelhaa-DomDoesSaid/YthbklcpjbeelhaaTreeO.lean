/- The reference's tree in memory, as its calls write it: the tree's block, the row of its nodes, each node's list of kids in a row of its own, all apart; S: the blocks that are the tree's. -/
import Derived.Test.YthbklcpjbeelhaaAppZ
namespace Go.Proofs.Ythbklcpjbeelhaa
open Go.RowKit Go.Lib
set_option maxRecDepth 100000
set_option linter.unusedVariables false

/-! ### Rows of the call's own -/
theorem own_keep {w w' : World} {base : Nat} {e : TypeId} {size : Nat} {v : Value} {n : Nat} {xs : List Value} (h : w.ownsRow base e size v n xs) (hk : ∀ g, v.ownBlock = some g → w'.heap[g]? = w.heap[g]?) : w'.ownsRow base e size v n xs := by
  obtain ⟨hl, ⟨rfl, h0⟩ | ⟨g, cap, cur, rfl, hb, hg, hn, hc, hcs, ht⟩⟩ := h
  · exact ⟨hl, .inl ⟨rfl, h0⟩⟩
  · exact ⟨hl, .inr ⟨g, cap, cur, rfl, hb, (hk g rfl).trans hg, hn, hc, hcs, ht⟩⟩
theorem own_cells {w : World} {base : Nat} {e : TypeId} {size : Nat} {v : Value} {n : Nat} {xs : List Value} (h : w.ownsRow base e size v n xs) {g : Nat} (hv : v.ownBlock = some g) : ∃ cs, BlkW w g cs e := by
  obtain ⟨_, ⟨rfl, h0⟩ | ⟨g', cap, cur, rfl, hb, hg, _⟩⟩ := h
  · cases hv
  · obtain rfl : g' = g := Option.some.inj hv
    exact ⟨cur, hg⟩
theorem own_set {w : World} {base : Nat} {e : TypeId} {size : Nat} {v : Value} {n : Nat} {xs : List Value} (h : w.ownsRow base e size v n xs) {g : Nat} (hv : v.ownBlock = some g) (k : Nat) (u : Value) : (w.setCell ⟨g, k, none⟩ u).ownsRow base e size v n (xs.set k u) := by
  obtain ⟨hl, ⟨rfl, h0⟩ | ⟨g', cap, cur, rfl, hb, hg, hn, hc, hcs, ht⟩⟩ := h
  · cases hv
  · obtain rfl : g' = g := Option.some.inj hv
    refine ⟨by rw [List.length_set]; exact hl, .inr ⟨g', cap, cur.setIfInBounds k u, rfl, hb, (show BlkW w g' cur e from hg).set_ k u, hn, hc, by rw [Array.size_setIfInBounds]; exact hcs, ?_⟩⟩
    rw [Array.toList_setIfInBounds, List.take_set, ht]
theorem own_addr {w : World} {base : Nat} {e : TypeId} {size : Nat} {v : Value} {n : Nat} {xs : List Value} (h : w.ownsRow base e size v n xs) (hn : n ≠ 0) : ∃ g cap, v = .slice (some ⟨g, 0, none⟩) n cap ∧ n ≤ cap := by
  obtain ⟨_, ⟨rfl, h0⟩ | ⟨g, cap, cur, rfl, hb, hg, hnc, _⟩⟩ := h
  · exact absurd h0 hn
  · exact ⟨g, cap, rfl, hnc⟩
/-! ### The nodes' row -/
/-- One of the tree as it lies in memory. -/
structure TR where
  kind : Nat
  space : Nat
  name : List UInt8
  ad : Option Addr
  an : Nat
  ac : Nat
  text : List UInt8
  par : Int
  kv : Value
def rowT (r : TR) : List Value := [.int .u8 r.kind, .int .u8 r.space, .string (bs r.name), .slice r.ad r.an r.ac, .string (bs r.text), .slice none 0 0, .int .i64 r.par, r.kv]
def rowsT (rs : List TR) : List Value := rs.flatMap rowT
theorem rowsT_append (a b : List TR) : rowsT (a ++ b) = rowsT a ++ rowsT b := by simp [rowsT]
theorem rowsT_at : ∀ (rs : List TR) (k : Nat), (rowsT rs)[k]? = (rs[k / 8]?).bind fun r => (rowT r)[k % 8]?
  | [], k => by simp [rowsT]
  | r :: t, k => by
    show (rowT r ++ rowsT t)[k]? = _
    by_cases hk : k < 8
    · rw [List.getElem?_append_left (by show k < 8; exact hk), show k / 8 = 0 by omega, show k % 8 = k by omega]
      rfl
    · rw [List.getElem?_append_right (by show 8 ≤ k; omega), show k - (rowT r).length = k - 8 from rfl, rowsT_at t (k - 8), show k / 8 = (k - 8) / 8 + 1 by omega, show k % 8 = (k - 8) % 8 by omega]
      rfl
theorem rowsT_len : ∀ rs : List TR, (rowsT rs).length = rs.length * 8
  | [] => rfl
  | r :: t => by
    show (rowT r ++ rowsT t).length = _
    rw [List.length_append, rowsT_len t, List.length_cons]
    show 8 + _ = _
    omega
theorem rowsT_get {rs : List TR} {i : Nat} {r : TR} (h : rs[i]? = some r) (j : Nat) (hj : j < 8) : (rowsT rs)[i * 8 + j]? = (rowT r)[j]? := by
  rw [rowsT_at, show (i * 8 + j) / 8 = i by omega, show (i * 8 + j) % 8 = j by omega, h]
  rfl
theorem rowsT_set {rs : List TR} {i j : Nat} {r r' : TR} {u : Value} (h : rs[i]? = some r) (hj : j < 8) (hr : rowT r' = (rowT r).set j u) : rowsT (rs.set i r') = (rowsT rs).set (i * 8 + j) u := by
  have hi : i < rs.length := (List.getElem?_eq_some_iff.1 h).1
  apply List.ext_getElem?
  intro k
  rw [rowsT_at, List.getElem?_set, List.getElem?_set, rowsT_len]
  by_cases h1 : i = k / 8
  · rw [if_pos h1, if_pos (by omega)]
    by_cases h2 : i * 8 + j = k
    · rw [if_pos h2, if_pos (by omega)]
      show (rowT r')[k % 8]? = _
      rw [hr, show k % 8 = j by omega, List.getElem?_set, if_pos rfl, if_pos (by show j < 8; exact hj)]
    · rw [if_neg h2, rowsT_at, ← h1, h]
      show (rowT r')[k % 8]? = (rowT r)[k % 8]?
      rw [hr, List.getElem?_set, if_neg (by omega)]
  · rw [if_neg h1, if_neg (by omega), rowsT_at]
theorem rowT_one (r : TR) (hk : r.kv.oneCell' = true) : ∀ u ∈ rowT r, u.oneCell' = true := by
  intro u hu
  simp [rowT] at hu
  rcases hu with rfl | rfl | rfl | rfl | rfl | rfl | rfl | rfl <;> first | rfl | exact hk
/-! ### The tree -/
/-- It is that node: its attributes and its kids lie there, in blocks of S. -/
structure FitsT (w : World) (base : Nat) (S : Nat → Prop) (r : TR) (x : Dom.TN) : Prop where
  kind : r.kind = x.nd.kind
  space : r.space = x.nd.space
  name : r.name = x.nd.name
  text : r.text = x.nd.text
  par : r.par = x.par
  atts : IsA w r.ad r.an x.nd.atts
  typ : TypB w r.ad
  inS : ∀ p, r.ad = some p → S p.block
  anil : r.ad = none → r.ac = 0
  kids : w.ownsRow base 3 1 r.kv x.kids.length (zL x.kids)
  kS : ∀ g, r.kv.ownBlock = some g → S g
/-- The tree at R: v the row of its nodes, rs what they are. -/
structure TreeO (w : World) (base R : Nat) (S : Nat → Prop) (v : Value) (rs : List TR) (t : Dom.T) : Prop where
  top : BlkW w R #[v] 62
  rS : S R
  own : w.ownsRow base 59 8 v t.length (rowsT rs)
  vS : ∀ g, v.ownBlock = some g → S g
  len : rs.length = t.length
  fits : ∀ (i : Nat) r x, rs[i]? = some r → t[i]? = some x → FitsT w base S r x
  apart : ∀ (i j : Nat) ri rj, i ≠ j → rs[i]? = some ri → rs[j]? = some rj → ∀ g, ri.kv.ownBlock = some g → rj.kv.ownBlock ≠ some g
  inb : ∀ k, S k → base ≤ k ∧ k < w.heap.size
theorem FitsT.keep {w w' : World} {base : Nat} {S S' : Nat → Prop} {r : TR} {x : Dom.TN} (h : FitsT w base S r x) (hS : ∀ k, S k → S' k) (hk : ∀ k, S k → w'.heap[k]? = w.heap[k]?) : FitsT w' base S' r x :=
  ⟨h.kind, h.space, h.name, h.text, h.par, isA_in h.atts (S := S) (.inr h.inS) hk, h.typ.heap fun p hp => hk _ (h.inS p hp), fun p hp => hS _ (h.inS p hp), h.anil, own_keep h.kids fun g hg => hk g (h.kS g hg), fun g hg => hS g (h.kS g hg)⟩
/-- It stands where its blocks stand as they stood. -/
theorem TreeO.keep {w w' : World} {base R : Nat} {S S' : Nat → Prop} {v : Value} {rs : List TR} {t : Dom.T} (h : TreeO w base R S v rs t) (hS : ∀ k, S k → S' k) (hk : ∀ k, S k → w'.heap[k]? = w.heap[k]?) (hb : ∀ k, S' k → base ≤ k ∧ k < w'.heap.size) : TreeO w' base R S' v rs t :=
  ⟨(hk R h.rS).trans h.top, hS R h.rS, own_keep h.own fun g hg => hk g (h.vS g hg), fun g hg => hS g (h.vS g hg), h.len, fun i r x hr hx => (h.fits i r x hr hx).keep hS hk, h.apart, hb⟩
theorem TreeO.below {w w' : World} {base R : Nat} {S : Nat → Prop} {v : Value} {rs : List TR} {t : Dom.T} (h : TreeO w base R S v rs t) (hb : Below w.heap.size w w') : TreeO w' base R S v rs t :=
  h.keep (fun _ hk => hk) (fun k hk => hb.block k (h.inb k hk).2) fun k hk => ⟨(h.inb k hk).1, by have := hb.size; have := (h.inb k hk).2; omega⟩
/-- As its calls read it. -/
theorem TreeO.read {w : World} {base R : Nat} {S : Nat → Prop} {v : Value} {rs : List TR} {t : Dom.T} (h : TreeO w base R S v rs t) (h0 : t ≠ []) (hf : t.length ≤ 1000000) : ∃ g cap, v = .slice (some ⟨g, 0, none⟩) t.length cap ∧ t.length ≤ cap ∧ TreeR w R g cap t := by
  obtain ⟨g, cap, rfl, hnc⟩ := own_addr h.own (by have := List.length_pos_iff.2 h0; omega)
  refine ⟨g, cap, rfl, hnc, h.top.cell 0, fun i x hx => ?_, hf⟩
  have hi : i < rs.length := by rw [h.len]; exact (List.getElem?_eq_some_iff.1 hx).1
  obtain ⟨r, hr⟩ : ∃ r, rs[i]? = some r := ⟨_, List.getElem?_eq_getElem hi⟩
  have F := h.fits i r x hr hx
  have hc : ∀ j u, j < 8 → (rowT r)[j]? = some u → w.cell? ⟨g, i * 8 + j, none⟩ = some u := fun j u hj hu => by
    have := h.own.cells (g := g) rfl (i * 8 + j) u (by rw [rowsT_get hr j hj]; exact hu)
    rwa [addr_add, Nat.zero_add] at this
  obtain ⟨a, c, hv, hI, h1, h2, h3, h4⟩ := own_isZ F.kids
  have e7 := hc 7 _ (by decide) (show (rowT r)[7]? = some r.kv from rfl)
  rw [hv] at e7
  refine ⟨r.ad, r.an, r.ac, a, x.kids.length, c, ?_, ?_, ?_, hc 3 _ (by decide) rfl, ?_, hc 5 _ (by decide) rfl, ?_, e7, F.atts, hI, h1, F.anil, h4⟩
  · rw [← F.kind]; exact hc 0 _ (by decide) rfl
  · rw [← F.space]; exact hc 1 _ (by decide) rfl
  · rw [← F.name]; exact hc 2 _ (by decide) rfl
  · rw [← F.text]; exact hc 4 _ (by decide) rfl
  · rw [← F.par]; exact hc 6 _ (by decide) rfl
theorem upd_set {t : Dom.T} {i : Nat} {x : Dom.TN} (hx : t[i]? = some x) (f : Dom.TN → Dom.TN) : Dom.upd t i f = t.set i (f x) := by
  apply List.ext_getElem?
  intro k
  unfold Dom.upd
  rw [List.getElem?_modify, List.getElem?_set]
  have hi : i < t.length := (List.getElem?_eq_some_iff.1 hx).1
  by_cases h : i = k
  · subst h
    rw [if_pos rfl, if_pos hi, hx]
    simp
  · rw [if_neg h]
    simp [h]
theorem node_ne_tree : (59 : TypeId) ≠ 62 := by decide
theorem node_ne_attr : (59 : TypeId) ≠ 67 := by decide
theorem node_ne_int : (59 : TypeId) ≠ 3 := by decide
theorem blk_ne {w : World} {a b : Nat} {cs ds : Array Value} {T U : TypeId} (h : BlkW w a cs T) (g : BlkW w b ds U) (hT : T ≠ U) : a ≠ b := by
  intro e
  subst e
  unfold BlkW at h g
  rw [h] at g
  injection g with g
  injection g with _ g2 _
  exact hT g2
/-- A node's cell is stored in the nodes' row. -/
theorem TreeO.cell {w : World} {base R g : Nat} {S S' : Nat → Prop} {v : Value} {rs : List TR} {t : Dom.T} (h : TreeO w base R S v rs t) (hv : v.ownBlock = some g) {i j : Nat} {r r' : TR} {x' : Dom.TN} {u : Value}
    (hr : rs[i]? = some r) (hj : j < 8) (hrow : rowT r' = (rowT r).set j u) (hfit : FitsT w base S' r' x') (hS : ∀ k, S k → S' k) (hb : ∀ k, S' k → base ≤ k ∧ k < w.heap.size)
    (hap : ∀ (k : Nat) rk, k ≠ i → rs[k]? = some rk → ∀ b, rk.kv.ownBlock = some b → r'.kv.ownBlock ≠ some b) :
    TreeO (w.setCell ⟨g, i * 8 + j, none⟩ u) base R S' v (rs.set i r') (t.set i x') := by
  obtain ⟨cs, hg⟩ := own_cells h.own hv
  have hi : i < rs.length := (List.getElem?_eq_some_iff.1 hr).1
  have far : ∀ {r : TR} {x : Dom.TN}, FitsT w base S' r x → FitsT (w.setCell ⟨g, i * 8 + j, none⟩ u) base S' r x := fun {r x} F =>
    ⟨F.kind, F.space, F.name, F.text, F.par, isA_in F.atts (S := fun k => k ≠ g) (.inr fun p hp => F.typ.ne hg node_ne_attr p hp) fun k hk => Below.heap_setCell _ _ _ _ hk, F.typ.heap fun p hp => Below.heap_setCell _ _ _ _ (F.typ.ne hg node_ne_attr p hp), F.inS, F.anil,
      own_keep F.kids fun b hb => Below.heap_setCell _ _ _ _ (by obtain ⟨ds, hd⟩ := own_cells F.kids hb; exact (blk_ne hg hd node_ne_int).symm), F.kS⟩
  refine ⟨h.top.far _ _ (blk_ne hg h.top node_ne_tree), hS R h.rS, ?_, fun b hb => hS b (h.vS b hb), by rw [List.length_set, List.length_set]; exact h.len, fun k rk xk hrk hxk => ?_, fun a b ra rb hab hra hrb c hc => ?_, fun k hk => by have := hb k hk; exact ⟨this.1, by simp [World.setCell]; exact this.2⟩⟩
  · rw [rowsT_set hr hj hrow, List.length_set]
    exact own_set h.own hv _ u
  · rw [List.getElem?_set] at hrk hxk
    split at hrk
    · rename_i e
      subst e
      rw [if_pos rfl, if_pos (by rw [← h.len]; exact hi)] at hxk
      injection hrk with hrk
      injection hxk with hxk
      subst hrk
      subst hxk
      exact far hfit
    · rename_i e
      rw [if_neg e] at hxk
      exact far ((h.fits k rk xk hrk hxk).keep hS fun _ _ => rfl)
  · rw [List.getElem?_set] at hra hrb
    split at hra
    · rename_i e
      subst e
      injection hra with hra
      subst hra
      rw [if_neg hab] at hrb
      intro e2
      exact hap b rb (fun e3 => hab e3.symm) hrb c e2 hc
    · split at hrb
      · rename_i e1 e
        subst e
        injection hrb with hrb
        subst hrb
        exact hap a ra hab hra c hc
      · exact h.apart a b ra rb hab hra hrb c hc
/-- It stands somewhere else. -/
theorem TreeO.par {w : World} {base R g : Nat} {S : Nat → Prop} {v : Value} {rs : List TR} {t : Dom.T} (h : TreeO w base R S v rs t) (hv : v.ownBlock = some g) {i : Nat} (hi : i < t.length) (p : Int) :
    ∃ rs', TreeO (w.setCell ⟨g, i * 8 + 6, none⟩ (.int .i64 p)) base R S v rs' (Dom.upd t i fun x => { x with par := p }) := by
  obtain ⟨r, hr⟩ : ∃ r, rs[i]? = some r := ⟨_, List.getElem?_eq_getElem (by rw [h.len]; exact hi)⟩
  have hx := node_get hi
  have F := h.fits i r _ hr hx
  rw [upd_set hx]
  refine ⟨_, h.cell (r' := { r with par := p }) hv hr (by decide) rfl ⟨F.kind, F.space, F.name, F.text, rfl, F.atts, F.typ, F.inS, F.anil, F.kids, F.kS⟩ (fun _ hk => hk) h.inb fun k rk hk hrk b hb => ?_⟩
  exact h.apart k i rk r hk hrk hr b hb
/-- Its text is another one. -/
theorem TreeO.txt {w : World} {base R g : Nat} {S : Nat → Prop} {v : Value} {rs : List TR} {t : Dom.T} (h : TreeO w base R S v rs t) (hv : v.ownBlock = some g) {i : Nat} (hi : i < t.length) (s : List UInt8) :
    ∃ rs', TreeO (w.setCell ⟨g, i * 8 + 4, none⟩ (.string (bs ((Dom.nodeAt t i).nd.text ++ s)))) base R S v rs' (Dom.upd t i fun x => Dom.addText x s) := by
  obtain ⟨r, hr⟩ : ∃ r, rs[i]? = some r := ⟨_, List.getElem?_eq_getElem (by rw [h.len]; exact hi)⟩
  have hx := node_get hi
  have F := h.fits i r _ hr hx
  rw [upd_set hx]
  refine ⟨_, h.cell (r' := { r with text := (Dom.nodeAt t i).nd.text ++ s }) hv hr (by decide) rfl ⟨F.kind, F.space, F.name, rfl, F.par, F.atts, F.typ, F.inS, F.anil, F.kids, F.kS⟩ (fun _ hk => hk) h.inb fun k rk hk hrk b hb => ?_⟩
  exact h.apart k i rk r hk hrk hr b hb
/-- Its kids are another row, that is no other node's. -/
theorem TreeO.kids {w : World} {base R g : Nat} {S : Nat → Prop} {v : Value} {rs : List TR} {t : Dom.T} (h : TreeO w base R S v rs t) (hv : v.ownBlock = some g) {i : Nat} (hi : i < t.length) (kv : Value) (l : List Nat)
    (hk : w.ownsRow base 3 1 kv l.length (zL l)) (hnew : ∀ b, kv.ownBlock = some b → ¬ S b) :
    ∃ rs', TreeO (w.setCell ⟨g, i * 8 + 7, none⟩ kv) base R (fun k => S k ∨ kv.ownBlock = some k) v rs' (Dom.upd t i fun x => { x with kids := l }) := by
  obtain ⟨r, hr⟩ : ∃ r, rs[i]? = some r := ⟨_, List.getElem?_eq_getElem (by rw [h.len]; exact hi)⟩
  have hx := node_get hi
  have F := (h.fits i r _ hr hx).keep (S' := fun k => S k ∨ kv.ownBlock = some k) (fun _ hk => .inl hk) fun _ _ => rfl
  rw [upd_set hx]
  refine ⟨_, h.cell (r' := { r with kv := kv }) hv hr (by decide) rfl ⟨F.kind, F.space, F.name, F.text, F.par, F.atts, F.typ, F.inS, F.anil, hk, fun b hb => .inr hb⟩ (fun _ hk => .inl hk) (fun k hk2 => hk2.elim (h.inb k) fun e => hk.lt k e) fun k rk hk2 hrk b hb e => ?_⟩
  obtain ⟨xk, hxk⟩ : ∃ x, t[k]? = some x := ⟨_, List.getElem?_eq_getElem (by rw [← h.len]; exact (List.getElem?_eq_some_iff.1 hrk).1)⟩
  exact hnew b e ((h.fits k rk xk hrk hxk).kS b hb)
end Go.Proofs.Ythbklcpjbeelhaa
