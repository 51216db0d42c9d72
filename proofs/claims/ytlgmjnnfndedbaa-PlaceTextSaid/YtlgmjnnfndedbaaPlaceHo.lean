/- Plain Lean: a tree that is being built, as layer 13's chapter has it: what is open, what formats, where things go. Nothing of a program stands here. Plain Lean: where things would go is a place of the tree; what no call turns. -/
import Derived.Test.YtlgmjnnfndedbaaTreeNd
import Derived.Test.YtlgmjnnfndedbaaOpenIn
import Derived.Test.YtlgmjnnfndedbaaAppT
import Derived.Test.YtlgmjnnfndedbaaClsLet
namespace Go.Proofs.Ytlgmjnnfndedbaa.Plc
open Go.Lib
set_option maxRecDepth 100000
set_option linter.unusedVariables false

/-- A World. -/
structure St where
  t : Dom.T
  op : List Opn.E
  ms : List Mk.M
  fo : Bool
  hi : Nat
def tblN : List UInt8 := [116, 97, 98, 108, 101]
def htmlN : List UInt8 := [104, 116, 109, 108]
/-- table, tbody, tfoot, thead, tr. -/
def gridN : List (List UInt8) := [tblN, [116, 98, 111, 100, 121], [116, 102, 111, 111, 116], [116, 104, 101, 97, 100], [116, 114]]
def root0 : Opn.E := ⟨0, 0, htmlN, 0⟩
def new : St := ⟨Dom.tNew, [root0], [], false, 1⟩
def opAt (s : St) (k : Nat) : Opn.E := s.op.getD k root0
def cur (s : St) : Opn.E := opAt s (s.op.length - 1)
/-- Ahead of the last table, or in what is open ahead of it. -/
def tableP (s : St) : Int × Int :=
  let k := Opn.untilI s.op [tblN] s.op.length
  if k < 0 then (0, -1) else
  let p := Dom.parentT s.t (opAt s k.toNat).id
  if 0 ≤ p then (p, (opAt s k.toNat).id) else ((opAt s (k.toNat - 1)).id, -1)
def whereP (s : St) (e : Opn.E) : Int × Int := if s.fo = true ∧ e.space = 0 ∧ e.name ∈ gridN then tableP s else (e.id, -1)

def encN : List UInt8 := [101, 110, 99, 111, 100, 105, 110, 103]
def annN : List UInt8 := [97, 110, 110, 111, 116, 97, 116, 105, 111, 110, 45, 120, 109, 108]
def thtN : List UInt8 := [116, 101, 120, 116, 47, 104, 116, 109, 108]
def xhtN : List UInt8 := [97, 112, 112, 108, 105, 99, 97, 116, 105, 111, 110, 47, 120, 104, 116, 109, 108, 43, 120, 109, 108]
def svgN : List (List UInt8) := [[100, 101, 115, 99], [102, 111, 114, 101, 105, 103, 110, 79, 98, 106, 101, 99, 116], [116, 105, 116, 108, 101]]
def mathN : List (List UInt8) := [[109, 105], [109, 110], [109, 111], [109, 115], [109, 116, 101, 120, 116]]
def encB (p : List UInt8 × List UInt8) : Bool := decide (p.1 = encN) && (decide (lowL p.2 = thtN) || decide (lowL p.2 = xhtN))
/-- The point of an element. -/
def pointN (space : Nat) (name : List UInt8) (atts : List (List UInt8 × List UInt8)) : Nat :=
  if space = 1 then (if name ∈ svgN then 2 else 0)
  else if space = 2 then (if name ∈ mathN then 1 else if name = annN ∧ atts.any encB = true then 2 else 0)
  else 0
def elemN (space : Nat) (name : List UInt8) (atts : List (List UInt8 × List UInt8)) : Dom.N := .mk 1 space name atts [] []
/-- An element is put where it goes, and is open. -/
noncomputable def ins (s : St) (space : Nat) (name : List UInt8) (atts : List (List UInt8 × List UInt8)) : St :=
  let p := whereP s (cur s)
  let m := Dom.makeT s.t (elemN space name atts)
  { s with t := (Dom.putT m.1 p.1 p.2 m.2).1, op := s.op ++ [⟨m.2, space, name, pointN space name atts⟩], hi := max s.hi (s.op.length + 1) }
noncomputable def write (s : St) (x : List UInt8) : St := { s with t := (Dom.writeT s.t (whereP s (cur s)).1 (whereP s (cur s)).2 x).1 }
def close (s : St) (n : Int) : St := if 1 ≤ n ∧ n < s.op.length then { s with op := s.op.take n.toNat } else s
/-- The number that the next element has. -/
def nextI (s : St) : Int := (s.t.length : Int)
/-- All but those with that number; the first one stays. -/
def dropL (id : Int) : List Opn.E → List Opn.E
  | [] => []
  | x :: r => x :: r.filter fun y => decide (y.id ≠ id)
def drop (s : St) (id : Int) : St := { s with op := dropL id s.op }
/-! ### What holds of Worlds that calls make -/
/-- An element's number is one of the tree's, and may have kids. -/
structure Ok (s : St) : Prop where
  good : Dom.Good s.t
  root : s.op[0]? = some root0
  ids : ∀ x ∈ s.op, Dom.holds s.t x.id
  few : s.op.length ≤ s.t.length
  high : s.op.length ≤ s.hi ∧ s.hi ≤ s.t.length
  fit : ∀ x ∈ s.op, x.space < 256 ∧ x.point < 256
theorem Ok.ne {s : St} (h : Ok s) : s.op ≠ [] := by
  intro e
  have := h.root
  rw [e] at this
  cases this
theorem Ok.pos {s : St} (h : Ok s) : 0 < s.op.length := List.length_pos_iff.2 h.ne
theorem Ok.at_ {s : St} (h : Ok s) {k : Nat} (hk : k < s.op.length) : s.op[k]? = some (opAt s k) ∧ opAt s k ∈ s.op := by
  have e : s.op[k]? = some s.op[k] := List.getElem?_eq_getElem hk
  have e2 : opAt s k = s.op[k] := by unfold opAt; rw [List.getD_eq_getElem?_getD, e]; rfl
  rw [e2]
  exact ⟨e, List.getElem_mem _⟩
theorem Ok.cur {s : St} (h : Ok s) : Dom.holds s.t (cur s).id := h.ids _ (h.at_ (by have := h.pos; omega)).2
theorem point_lt (space : Nat) (name : List UInt8) (atts : List (List UInt8 × List UInt8)) : pointN space name atts < 256 := by
  unfold pointN
  repeat' split
  all_goals omega
theorem holds_root {t : Dom.T} (h : Dom.Good t) : Dom.holds t 0 := ⟨⟨Int.le_refl _, by have := List.length_pos_iff.2 h.some; omega⟩, .inl rfl⟩
theorem holds_same {t u : Dom.T} (hl : t.length ≤ u.length) (hk : ∀ i, i < t.length → Dom.kindAt u i = Dom.kindAt t i) {i : Int} (h : Dom.holds t i) : Dom.holds u i := by
  obtain ⟨⟨h1, h2⟩, h3⟩ := h
  exact ⟨⟨h1, by omega⟩, h3.imp id fun e => by rw [hk _ (by omega)]; exact e⟩
/-- The same kinds, and perhaps more nodes. -/
def SameKd (t u : Dom.T) : Prop := t.length ≤ u.length ∧ ∀ i, i < t.length → Dom.kindAt u i = Dom.kindAt t i
theorem SameKd.trans {t u v : Dom.T} (h : SameKd t u) (g : SameKd u v) : SameKd t v := ⟨Nat.le_trans h.1 g.1, fun i hi => (g.2 i (Nat.lt_of_lt_of_le hi h.1)).trans (h.2 i hi)⟩
theorem SameKd.of_nd {t u : Dom.T} (h : SameNd t u) : SameKd t u := ⟨Nat.le_of_eq h.1.symm, fun i _ => by unfold Dom.kindAt; rw [h.2]⟩
theorem SameKd.snoc (t : Dom.T) (x : Dom.TN) : SameKd t (t ++ [x]) := by
  refine ⟨by rw [List.length_append]; exact Nat.le_add_right _ _, fun i hi => ?_⟩
  unfold Dom.kindAt
  rw [Dom.nodeAt_snoc, if_neg (by omega)]
theorem SameKd.text (t : Dom.T) (q : Nat) (x : List UInt8) : SameKd t (Dom.upd t q fun y => Dom.addText y x) := by
  refine ⟨Nat.le_of_eq (Dom.upd_len _ _ _).symm, fun i hi => ?_⟩
  unfold Dom.kindAt
  by_cases hq : q < t.length
  · rw [Dom.upd_at _ _ _ hq]
    split
    · rename_i e
      rw [e]
      rfl
    · rfl
  · rw [upd_out (by omega)]
theorem SameKd.holds {t u : Dom.T} (h : SameKd t u) {i : Int} (g : Dom.holds t i) : Dom.holds u i := holds_same h.1 h.2 g
theorem kd_write (t : Dom.T) (p b : Int) (x : List UInt8) : SameKd t (Dom.writeT t p b x).1 := by
  unfold Dom.writeT
  split
  · exact ⟨Nat.le_refl _, fun _ _ => rfl⟩
  · split
    · exact ⟨Nat.le_refl _, fun _ _ => rfl⟩
    · simp only
      split
      · exact SameKd.text t _ x
      · exact (SameKd.snoc t _).trans (.of_nd (sameNd_put _ _ _ _))
theorem make_elem (t : Dom.T) (space : Nat) (name : List UInt8) (atts : List (List UInt8 × List UInt8)) : Dom.makeT t (elemN space name atts) = (t ++ [⟨elemN space name atts, -1, []⟩], (t.length : Int)) := by
  unfold Dom.makeT
  rw [if_neg (by show ¬ (1 < 1 ∨ 3 < 1); omega)]
  rfl
theorem Ok.ins {s : St} (h : Ok s) {space : Nat} (hsp : space < 256) (name : List UInt8) (atts : List (List UInt8 × List UInt8)) : Ok (ins s space name atts) := by
  have e := make_elem s.t space name atts
  have hk : SameKd s.t (Plc.ins s space name atts).t := by
    show SameKd s.t (Dom.putT (Dom.makeT s.t (elemN space name atts)).1 _ _ _).1
    rw [e]
    exact (SameKd.snoc s.t _).trans (.of_nd (sameNd_put _ _ _ _))
  have hl : (Plc.ins s space name atts).t.length = s.t.length + 1 := by
    show (Dom.putT (Dom.makeT s.t (elemN space name atts)).1 _ _ _).1.length = _
    rw [(sameNd_put _ _ _ _).1, e]
    simp
  have hop : (Plc.ins s space name atts).op = s.op ++ [⟨(s.t.length : Int), space, name, pointN space name atts⟩] := by
    show s.op ++ [⟨(Dom.makeT s.t (elemN space name atts)).2, _, _, _⟩] = _
    rw [e]
  refine ⟨Dom.good_put (Dom.good_make h.good _) _ _ _, ?_, fun x hx => ?_, ?_, ?_, fun x hx => ?_⟩
  · rw [hop, List.getElem?_append_left h.pos]
    exact h.root
  · rw [hop] at hx
    rcases List.mem_append.1 hx with hx | hx
    · exact hk.holds (h.ids x hx)
    · rw [List.mem_singleton.1 hx]
      refine ⟨⟨by show (0 : Int) ≤ (s.t.length : Int); omega, by show (s.t.length : Int) < _; rw [hl]; omega⟩, .inr ?_⟩
      show Dom.kindAt (Dom.putT (Dom.makeT s.t (elemN space name atts)).1 _ _ _).1 ((s.t.length : Int)).toNat = 1
      unfold Dom.kindAt
      rw [(sameNd_put _ _ _ _).2, e, Dom.nodeAt_snoc, if_pos (by omega)]
      rfl
  · rw [hop, hl, List.length_append]
    have := h.few
    simp
    exact this
  · have h1 := h.high
    have h2 := h.few
    have h3 : (Plc.ins s space name atts).hi = max s.hi (s.op.length + 1) := rfl
    rw [hop, hl, h3, List.length_append]
    simp only [List.length_singleton]
    omega
  · rw [hop] at hx
    rcases List.mem_append.1 hx with hx | hx
    · exact h.fit x hx
    · rw [List.mem_singleton.1 hx]
      exact ⟨hsp, point_lt _ _ _⟩
theorem Ok.tree {s : St} (h : Ok s) {u : Dom.T} (hG : Dom.Good u) (hk : SameKd s.t u) : Ok { s with t := u } :=
  ⟨hG, h.root, fun x hx => hk.holds (h.ids x hx), Nat.le_trans h.few hk.1, ⟨h.high.1, Nat.le_trans h.high.2 hk.1⟩, h.fit⟩
theorem Ok.write {s : St} (h : Ok s) (x : List UInt8) : Ok (write s x) := h.tree (Dom.good_write h.good _ _ _) (kd_write _ _ _ _)
theorem Ok.sub {s : St} (h : Ok s) {l : List Opn.E} (h0 : l[0]? = some root0) (hs : ∀ x ∈ l, x ∈ s.op) (hl : l.length ≤ s.op.length) : Ok { s with op := l } :=
  ⟨h.good, h0, fun x hx => h.ids x (hs x hx), Nat.le_trans hl h.few, ⟨Nat.le_trans hl h.high.1, h.high.2⟩, fun x hx => h.fit x (hs x hx)⟩
theorem Ok.close {s : St} (h : Ok s) (n : Int) : Ok (close s n) := by
  unfold Plc.close
  split
  · rename_i hn
    refine h.sub ?_ (fun x hx => List.mem_of_mem_take hx) (by rw [List.length_take]; omega)
    rw [List.getElem?_take_of_lt (by omega)]
    exact h.root
  · exact h
theorem dropL_len (id : Int) : ∀ l, (dropL id l).length ≤ l.length
  | [] => Nat.le_refl _
  | x :: r => Nat.succ_le_succ (List.length_filter_le _ _)
theorem dropL_mem (id : Int) : ∀ l x, x ∈ dropL id l → x ∈ l
  | [], x, h => h
  | y :: r, x, h => by
    rcases List.mem_cons.1 h with h | h
    · rw [h]; exact List.mem_cons_self
    · exact List.mem_cons_of_mem _ (List.mem_filter.1 h).1
theorem Ok.drop {s : St} (h : Ok s) (id : Int) : Ok (drop s id) := by
  refine h.sub ?_ (dropL_mem id _) (dropL_len id _)
  have hr := h.root
  generalize s.op = l at *
  cases l with
  | nil => cases hr
  | cons x r => exact hr
theorem Ok.foster {s : St} (h : Ok s) (b : Bool) : Ok { s with fo := b } := ⟨h.good, h.root, h.ids, h.few, h.high, h.fit⟩
theorem ok_new : Ok new where
  good := Dom.good_new
  root := rfl
  ids := fun x hx => by
    rw [List.mem_singleton.1 hx]
    exact holds_root Dom.good_new
  few := Nat.le_refl _
  high := ⟨Nat.le_refl _, Nat.le_refl _⟩
  fit := fun x hx => by
    rw [List.mem_singleton.1 hx]
    exact ⟨by decide, by decide⟩
end Go.Proofs.Ytlgmjnnfndedbaa.Plc
namespace Go.Proofs.Ytlgmjnnfndedbaa.Plc
open Go.Lib
set_option maxRecDepth 100000
set_option linter.unusedVariables false
theorem holds_nn {t : Dom.T} {i : Int} (h : Dom.holds t i) : 0 ≤ i := h.1.1
theorem Ok.idAt {s : St} (h : Ok s) {k : Nat} (hk : k < s.op.length) : 0 ≤ (opAt s k).id := by
  have e : s.op[k]? = some (opAt s k) := by
    unfold opAt
    rw [List.getD_eq_getElem?_getD, List.getElem?_eq_getElem hk]
    rfl
  exact holds_nn (h.ids _ (List.mem_of_getElem? e))
theorem Ok.place_ {s : St} (h : Ok s) {e : Opn.E} (he : 0 ≤ e.id) : 0 ≤ (whereP s e).1 ∧ (0 ≤ (whereP s e).2 → Dom.parentT s.t (whereP s e).2 = (whereP s e).1) := by
  unfold whereP
  split
  · unfold tableP
    obtain ⟨h1, h2⟩ := Opn.untilI_lt s.op [tblN] s.op.length
    obtain ⟨k, hk⟩ : ∃ k, Opn.untilI s.op [tblN] s.op.length = k := ⟨_, rfl⟩
    rw [hk] at h1 h2
    simp only [hk]
    split
    · exact ⟨Int.le_refl _, fun e => absurd e (by decide)⟩
    · split
      · rename_i hp
        exact ⟨hp, fun _ => rfl⟩
      · exact ⟨h.idAt (by omega), fun e => absurd e (by simp)⟩
  · exact ⟨he, fun e => absurd e (by simp)⟩
theorem Ok.whereCur {s : St} (h : Ok s) : 0 ≤ (whereP s (Plc.cur s)).1 ∧ (0 ≤ (whereP s (Plc.cur s)).2 → Dom.parentT s.t (whereP s (Plc.cur s)).2 = (whereP s (Plc.cur s)).1) :=
  h.place_ (h.idAt (by have := h.pos; omega))
/-- Behind Insert the current element is the new one. -/
theorem cur_ins (s : St) (sp : Nat) (nm : List UInt8) (atts : List (List UInt8 × List UInt8)) : cur (ins s sp nm atts) = ⟨nextI s, sp, nm, pointN sp nm atts⟩ := by
  have e : (ins s sp nm atts).op = s.op ++ [⟨nextI s, sp, nm, pointN sp nm atts⟩] := by
    show s.op ++ [⟨(Dom.makeT s.t (elemN sp nm atts)).2, _, _, _⟩] = _
    rw [make_elem]
    rfl
  unfold cur opAt
  rw [e, List.length_append, List.getD_eq_getElem?_getD, List.getElem?_append_right (by simp)]
  simp
theorem hi_ins (s : St) (sp : Nat) (nm : List UInt8) (atts : List (List UInt8 × List UInt8)) : s.hi ≤ (ins s sp nm atts).hi := by
  show s.hi ≤ max s.hi _
  omega
theorem hi_close (s : St) (n : Int) : (close s n).hi = s.hi := by unfold close; split <;> rfl
end Go.Proofs.Ytlgmjnnfndedbaa.Plc
