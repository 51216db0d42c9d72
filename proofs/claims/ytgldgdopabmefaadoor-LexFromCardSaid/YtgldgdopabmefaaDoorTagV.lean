/- What package tag tells, in plain words, and how its lists lie in memory: nothing of a program's calls stands here. -/
import Derived.Test.YtgldgdopabmefaaDoorTagPl
import Derived.Test.YtgldgdopabmefaaDoorLexV
import Derived.Test.YtgldgdopabmefaaDoorAppT
namespace Go.Proofs.YtgldgdopabmefaaDoor
open Go.RowKit Go.Lib
set_option maxRecDepth 100000
set_option linter.unusedVariables false

theorem ret_int {k : IntKind} {a b : Int} (h : a = b) : Ending.returned (.int k a) = .returned (.int k b) := by rw [h]
theorem at_list (s : ByteArray) (k : Nat) (h : k < s.size) : s.data.toList[k]? = some (s[k]'h) := by
  rw [Array.getElem?_toList]
  exact Array.getElem?_eq_getElem h
/-- A tag begins at i, whatever number that is. -/
def begI (l : List UInt8) (i : Int) : Bool := decide (0 ≤ i) && Tag.begB l i.toNat
theorem begI_neg {l : List UInt8} {i : Int} (h : i < 0) : begI l i = false := by unfold begI; rw [decide_eq_false (by omega)]; rfl
theorem begI_nat (l : List UInt8) (n : Nat) : begI l (n : Int) = Tag.begB l n := by unfold begI; rw [decide_eq_true (by omega)]; rfl
theorem begB_short {l : List UInt8} {n : Nat} (h : l.length ≤ n + 1) : Tag.begB l n = false := by unfold Tag.begB; rw [decide_eq_false (by omega)]; rfl
theorem begB_other {l : List UInt8} {n : Nat} (h : U8.B l n ≠ 60) : Tag.begB l n = false := by
  unfold Tag.begB
  rw [show (U8.B l n == 60) = false by simpa using h]
  simp
theorem begB_name {l : List UInt8} {n : Nat} (h : n + 1 < l.length) (h0 : U8.B l n = 60) (h1 : U8.B l (n + 1) ≠ 47) : Tag.begB l n = letterN (U8.B l (n + 1)) := by
  unfold Tag.begB
  rw [decide_eq_true h, h0, if_neg h1]
  rfl
theorem begB_end {l : List UInt8} {n : Nat} (h : n + 1 < l.length) (h0 : U8.B l n = 60) (h1 : U8.B l (n + 1) = 47) : Tag.begB l n = (decide (n + 2 < l.length) && letterN (U8.B l (n + 2))) := by
  unfold Tag.begB
  rw [decide_eq_true h, h0, if_pos h1]
  rfl
theorem cut_list (s : ByteArray) (a b : Nat) : (s.extract a b).data.toList = Tag.cutP s.data.toList a b := by
  rw [extract_data]; rfl
theorem cut_size (s : ByteArray) (a b : Nat) (hb : b ≤ s.size) (h : a ≤ b) : (s.extract a b).size = b - a := by
  rw [size_eq, cut_list]; unfold Tag.cutP; rw [List.length_take, List.length_drop, size_list]; omega
/-- What Read answers, and where its attributes lie. -/
def ReadE (l : List UInt8) (i : Int) (n : Nat) (e : Ending) (w' : World) : Prop :=
  if begI l i = true then
    match Tag.readP l i.toNat with
    | none => e = .returned (.tuple #[tokV 0 [] none 0 0 false [], .int .i64 n, .bool false])
    | some (t, m) => ∃ a k c, e = .returned (.tuple #[tokV t.kind t.name a k c t.self [], .int .i64 m, .bool true]) ∧ IsA w' a k t.atts ∧ k ≤ l.length
  else e = .returned (.tuple #[tokV 0 [] none 0 0 false [], .int .i64 i, .bool false])
/-- The token in work: the result's block H, the token's own block behind it. -/
structure TokW (w W : World) (H : Nat) (K : Int) (N : ByteArray) : Prop where
  below : Below w.heap.size w W
  res : BlkW W H #[.int .u8 0, .string ⟨#[]⟩, .slice none 0 0, .bool false, .string ⟨#[]⟩] 25
  tok : BlkW W (H + 1) #[.int .u8 K, .string N, .slice none 0 0, .bool false, .string ⟨#[]⟩] 25
  lt : w.heap.size ≤ H
section
variable {w W W' : World} {H : Nat} {K : Int} {N : ByteArray}
theorem TokW.below' (h : TokW w W H K N) (hb : Below W.heap.size W W') : TokW w W' H K N := ⟨h.below.trans (hb.mono h.below.size), h.res.below hb h.res.lt, h.tok.below hb h.tok.lt, h.lt⟩
theorem TokW.grown {row : Option Nat} (h : TokW w W H K N) (hg : W.grownBy W' row) (hr : ∀ g, row = some g → H + 2 ≤ g) : TokW w W' H K N :=
  ⟨h.below.grown hg h.below.size (fun k hk => by have := hr k hk; have := h.lt; omega), h.res.grow hg (fun e => by have := hr _ e.symm; omega), h.tok.grow hg (fun e => by have := hr _ e.symm; omega), h.lt⟩
theorem TokW.alloc (h : TokW w W H K N) (o : Obj) : TokW w (W.alloc o) H K N := ⟨h.below.alloc h.below.size o, h.res.alloc o, h.tok.alloc o, h.lt⟩
theorem TokW.cells (h : TokW w W H K N) : W.cell? ⟨H, 0, none⟩ = some (.int .u8 0) ∧ W.cell? ⟨H, 1, none⟩ = some (.string ⟨#[]⟩) ∧ W.cell? ⟨H, 2, none⟩ = some (.slice none 0 0) ∧ W.cell? ⟨H, 3, none⟩ = some (.bool false) ∧ W.cell? ⟨H, 4, none⟩ = some (.string ⟨#[]⟩) ∧
    W.cell? ⟨H + 1, 0, none⟩ = some (.int .u8 K) ∧ W.cell? ⟨H + 1, 1, none⟩ = some (.string N) ∧ W.cell? ⟨H + 1, 2, none⟩ = some (.slice none 0 0) ∧ W.cell? ⟨H + 1, 3, none⟩ = some (.bool false) ∧ W.cell? ⟨H + 1, 4, none⟩ = some (.string ⟨#[]⟩) :=
  ⟨h.res.cell 0, h.res.cell 1, h.res.cell 2, h.res.cell 3, h.res.cell 4, h.tok.cell 0, h.tok.cell 1, h.tok.cell 2, h.tok.cell 3, h.tok.cell 4⟩
theorem TokW.free (h : TokW w W H K N) : W.frozen? ⟨H, 0, none⟩ = false ∧ W.frozen? ⟨H, 1, none⟩ = false ∧ W.frozen? ⟨H, 2, none⟩ = false ∧ W.frozen? ⟨H, 3, none⟩ = false ∧ W.frozen? ⟨H, 4, none⟩ = false ∧
    W.frozen? ⟨H + 1, 0, none⟩ = false ∧ W.frozen? ⟨H + 1, 1, none⟩ = false ∧ W.frozen? ⟨H + 1, 2, none⟩ = false ∧ W.frozen? ⟨H + 1, 3, none⟩ = false ∧ W.frozen? ⟨H + 1, 4, none⟩ = false :=
  ⟨h.res.free 0, h.res.free 1, h.res.free 2, h.res.free 3, h.res.free 4, h.tok.free 0, h.tok.free 1, h.tok.free 2, h.tok.free 3, h.tok.free 4⟩
theorem TokW.drewN (h : TokW w W H K N) (n : Nat) : TokW w (W.drewN n) H K N := ⟨bel_drewN h.below n, h.res, h.tok, h.lt⟩
end
theorem TokW.far {w W : World} {H : Nat} {K : Int} {N : ByteArray} (h : TokW w W H K N) (p : Addr) (u : Value) (hp : H + 2 ≤ p.block) : TokW w (W.setCell p u) H K N :=
  ⟨h.below.setCell (by have := h.lt; omega) u, h.res.far p u (by omega), h.tok.far p u (by omega), h.lt⟩
theorem own_is {w : World} {base : Nat} {ad : Option Addr} {n cp : Nat} {ls : List Tag.At} (h : w.ownsRow base 50 2 (.slice ad n cp) ls.length (pairL ls)) : IsA w ad n ls := by
  obtain ⟨a, cap, e, h1, _⟩ := own_isT' h
  cases e
  exact h1
/-- What the loop over attributes keeps. -/
structure LoopW (w W : World) (H : Nat) (K : Int) (N : ByteArray) (v : Value) (atts : List Tag.At) : Prop where
  tok : TokW w W H K N
  own : W.ownsRow (H + 2) 50 2 v atts.length (pairL atts)
theorem LoopW.below' {w W W' : World} {H : Nat} {K : Int} {N : ByteArray} {v : Value} {atts : List Tag.At} (h : LoopW w W H K N v atts) (hb : Below W.heap.size W W') : LoopW w W' H K N v atts := ⟨h.tok.below' hb, own_below h.own hb⟩
theorem addA_len (atts : List Tag.At) (n v : List UInt8) : (Tag.addA atts n v).length ≤ atts.length + 1 := by
  unfold Tag.addA; split
  · omega
  · rw [List.length_append]; simp
/-- A list that is told lies in memory that is new. -/
def NewB (B : Nat) (w : World) (a : Option Addr) : Prop := ∀ x, a = some x → B ≤ x.block ∧ ∃ cs fr, w.heap[x.block]? = some (.cells cs 50 fr)
def NewE (B : Nat) (e : Ending) (w : World) : Prop := ∀ x0 x1 a k c x3 x4 p q, e = .returned (.tuple #[.agg #[x0, x1, .slice (some a) k c, x3, x4], p, q]) → B ≤ a.block ∧ ∃ cs fr, w.heap[a.block]? = some (.cells cs 50 fr)
theorem newE_slice {B : Nat} {w : World} {x0 x1 x3 x4 p q : Value} {ad : Option Addr} {k c : Nat} (h : NewB B w ad) : NewE B (.returned (.tuple #[.agg #[x0, x1, .slice ad k c, x3, x4], p, q])) w := by
  intro y0 y1 a k' c' y3 y4 p' q' e
  simp at e
  exact h a e.1.2.2.1.1
theorem newE_none {B : Nat} {w : World} {x0 x1 x3 x4 p q : Value} {k c : Nat} : NewE B (.returned (.tuple #[.agg #[x0, x1, .slice none k c, x3, x4], p, q])) w := newE_slice (fun x hx => by cases hx)
theorem own_newB {w : World} {base B : Nat} {ad : Option Addr} {n cp : Nat} {ls : List Tag.At} (h : w.ownsRow base 50 2 (.slice ad n cp) ls.length (pairL ls)) (hB : B ≤ base) : NewB B w ad := by
  have ht := own_typ h
  obtain ⟨a, cap, e, _, _, _, h2, _⟩ := own_isT' h
  cases e
  exact fun x hx => ⟨Nat.le_trans hB (h2 x hx), ht x hx⟩
/-- What Read answers where a tag begins; the result is in block H. -/
def TagE (l : List UInt8) (i n : Nat) (e : Ending) (w' : World) : Prop :=
  match Tag.readP l i with
  | none => e = .returned (.tuple #[tokV 0 [] none 0 0 false [], .int .i64 n, .bool false])
  | some (t, m) => ∃ a k c, e = .returned (.tuple #[tokV t.kind t.name a k c t.self [], .int .i64 m, .bool true]) ∧ IsA w' a k t.atts ∧ k ≤ l.length
/-- The same out of the run over its attributes. -/
def TagR (R : Option (List Tag.At × Nat × Bool)) (K : Nat) (nm : List UInt8) (ln n : Nat) (e : Ending) (w' : World) : Prop :=
  match R with
  | none => e = .returned (.tuple #[tokV 0 [] none 0 0 false [], .int .i64 n, .bool false])
  | some (atts, m, sf) => ∃ a k c, e = .returned (.tuple #[tokV K nm a k c (K == 2 && sf) [], .int .i64 (m + 1 : Nat), .bool true]) ∧ IsA w' a k (if K = 2 then atts else []) ∧ k ≤ ln
theorem readE_no {l : List UInt8} {i : Int} {n : Nat} {e : Ending} {w' : World} (h : begI l i = false) (he : e = .returned (.tuple #[tokV 0 [] none 0 0 false [], .int .i64 i, .bool false])) : ReadE l i n e w' := by
  unfold ReadE
  rw [if_neg (by rw [h]; decide)]
  exact he
theorem readE_yes {l : List UInt8} {i n : Nat} {e : Ending} {w' : World} (h : Tag.begB l i = true) (he : TagE l i n e w') : ReadE l i n e w' := by
  unfold ReadE
  rw [if_pos (by rw [begI_nat]; exact h)]
  exact he
theorem begI_cases {l : List UInt8} {i : Int} (h : begI l i = true) : ∃ n : Nat, i = n ∧ Tag.begB l n = true := by
  unfold begI at h
  simp only [Bool.and_eq_true, decide_eq_true_eq] at h
  exact ⟨i.toNat, by omega, h.2⟩
theorem readE_none {l : List UInt8} {j n : Nat} {e : Ending} {w' : World} (h : ReadE l j n e w') (hb : Tag.begB l j = true) (hr : Tag.readP l j = none) : e = .returned (.tuple #[tokV 0 [] none 0 0 false [], .int .i64 n, .bool false]) := by
  unfold ReadE at h
  rw [if_pos (by rw [begI_nat]; exact hb), show ((j : Int)).toNat = j by omega, hr] at h
  exact h
theorem readE_some {l : List UInt8} {j n m : Nat} {t : Tag.Tok} {e : Ending} {w' : World} (h : ReadE l j n e w') (hb : Tag.begB l j = true) (hr : Tag.readP l j = some (t, m)) : ∃ a k c, e = .returned (.tuple #[tokV t.kind t.name a k c t.self [], .int .i64 m, .bool true]) ∧ IsA w' a k t.atts ∧ k ≤ l.length := by
  unfold ReadE at h
  rw [if_pos (by rw [begI_nat]; exact hb), show ((j : Int)).toNat = j by omega, hr] at h
  exact h
end Go.Proofs.YtgldgdopabmefaaDoor
