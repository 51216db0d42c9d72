/- Marks in memory: a row of structs of three cells; their attributes in lists of their own. -/
import Derived.Test.YtmgbjkekfejnfaaMarkPl
import Derived.Test.YtmgbjkekfejnfaaWld
import Derived.Test.YtmgbjkekfejnfaaBlk
namespace Go.Proofs.Ytmgbjkekfejnfaa
open Go.RowKit Go.Lib
set_option maxRecDepth 100000
set_option linter.unusedVariables false
/-- A mark's cells. -/
structure MR where
  id : Int
  name : List UInt8
  aa : Option Addr
  an : Nat
  ac : Nat
def MR.val (r : MR) : Value := .agg #[.int .i64 r.id, .string (bs r.name), .slice r.aa r.an r.ac]
def MR.cells (r : MR) : Array Value := #[.int .i64 r.id, .string (bs r.name), .slice r.aa r.an r.ac]
/-- A row of marks' cells. -/
def RowM (w : World) (a : Option Addr) (n : Nat) (rs : List MR) : Prop :=
  rs.length = n ∧ (n = 0 ∨ ∃ b off, a = some ⟨b, off, none⟩ ∧ ∀ (i : Nat) r, rs[i]? = some r → w.cell? ⟨b, off + i * 3, none⟩ = some (.int .i64 r.id) ∧ w.cell? ⟨b, off + i * 3 + 1, none⟩ = some (.string (bs r.name)) ∧ w.cell? ⟨b, off + i * 3 + 2, none⟩ = some (.slice r.aa r.an r.ac))
theorem RowM.below {w w' : World} {a : Option Addr} {n : Nat} {rs : List MR} (h : RowM w a n rs) (hb : Below w.heap.size w w') : RowM w' a n rs :=
  ⟨h.1, h.2.elim .inl fun ⟨b, off, e, hat⟩ => .inr ⟨b, off, e, fun i r hi => ⟨cell_up (hat i r hi).1 hb, cell_up (hat i r hi).2.1 hb, cell_up (hat i r hi).2.2 hb⟩⟩⟩
theorem RowM.at_ {w : World} {b off n : Nat} {rs : List MR} (h : RowM w (some ⟨b, off, none⟩) n rs) {i : Nat} {r : MR} (hr : rs[i]? = some r) :
    w.cell? ⟨b, off + i * 3, none⟩ = some (.int .i64 r.id) ∧ w.cell? ⟨b, off + i * 3 + 1, none⟩ = some (.string (bs r.name)) ∧ w.cell? ⟨b, off + i * 3 + 2, none⟩ = some (.slice r.aa r.an r.ac) := by
  obtain ⟨hl, h0 | ⟨b', o', e, hat⟩⟩ := h
  · have := (List.getElem?_eq_some_iff.1 hr).1
    omega
  · cases e
    exact hat i r hr
/-- It is that mark. -/
structure FitM (w : World) (r : MR) (x : Mk.M) : Prop where
  id : r.id = x.id
  name : r.name = x.name
  atts : IsA w r.aa r.an x.atts
  cap : r.an ≤ r.ac
  cap2 : r.ac ≤ 9223372036854775807
  nil : r.aa = none → r.ac = 0
theorem FitM.few {w : World} {r : MR} {x : Mk.M} (h : FitM w r x) : r.an ≤ 9223372036854775807 := Nat.le_trans h.cap h.cap2
theorem FitM.below {w w' : World} {r : MR} {x : Mk.M} (h : FitM w r x) (hb : Below w.heap.size w w') : FitM w' r x := { h with atts := h.atts.below hb }
def AttsM (w : World) (rs : List MR) (xs : List Mk.M) : Prop := rs.length = xs.length ∧ ∀ (i : Nat) r x, rs[i]? = some r → xs[i]? = some x → FitM w r x
theorem AttsM.below {w w' : World} {rs : List MR} {xs : List Mk.M} (h : AttsM w rs xs) (hb : Below w.heap.size w w') : AttsM w' rs xs := ⟨h.1, fun i r x hr hx => (h.2 i r x hr hx).below hb⟩
theorem AttsM.nil (w : World) : AttsM w [] [] := ⟨rfl, fun i r x hr => by simp at hr⟩
theorem AttsM.snoc {w : World} {rs : List MR} {xs : List Mk.M} {r : MR} {x : Mk.M} (h : AttsM w rs xs) (f : FitM w r x) : AttsM w (rs ++ [r]) (xs ++ [x]) := by
  refine ⟨by simp [h.1], fun i r' x' hr hx => ?_⟩
  by_cases hi : i < rs.length
  · rw [List.getElem?_append_left hi] at hr
    rw [List.getElem?_append_left (by rw [← h.1]; exact hi)] at hx
    exact h.2 i r' x' hr hx
  · rw [List.getElem?_append_right (by omega)] at hr
    rw [List.getElem?_append_right (by have := h.1; omega), ← h.1] at hx
    cases hk : i - rs.length with
    | zero => rw [hk] at hr hx; simp at hr hx; subst hr; subst hx; exact f
    | succ k => rw [hk] at hr; simp at hr
theorem AttsM.keep {w : World} {rs : List MR} {xs : List Mk.M} (h : AttsM w rs xs) (skip : Int) : ∀ k, AttsM w (Mk.keepK rs skip k) (Mk.keepK xs skip k)
  | 0 => .nil w
  | k + 1 => by
    cases hr : rs[k]? with
    | none =>
      have hx : xs[k]? = none := by rw [List.getElem?_eq_none_iff] at hr ⊢; have := h.1; omega
      conv => arg 2; unfold Mk.keepK
      conv => arg 3; unfold Mk.keepK
      rw [hr, hx]
      exact h.keep skip k
    | some r =>
      obtain ⟨x, hx⟩ : ∃ x, xs[k]? = some x := ⟨_, List.getElem?_eq_getElem (by have := h.1; have := (List.getElem?_eq_some_iff.1 hr).1; omega)⟩
      rw [Mk.keepK_step hr, Mk.keepK_step hx]
      by_cases hs : (k : Int) = skip
      · rw [if_pos hs, if_pos hs]; exact h.keep skip k
      · rw [if_neg hs, if_neg hs]; exact (h.keep skip k).snoc (h.2 k r x hr hx)
theorem AttsM.take {w : World} {rs : List MR} {xs : List Mk.M} (h : AttsM w rs xs) (k : Nat) : AttsM w (rs.take k) (xs.take k) := by
  have := h.keep (-1) k
  rwa [Mk.keepK_none, Mk.keepK_none] at this
/-- A list of marks in memory. -/
structure MarksIn (a : Option Addr) (n c : Nat) (rs : List MR) (xs : List Mk.M) (w : World) : Prop where
  row : RowM w a n rs
  atts : AttsM w rs xs
  few : n ≤ 4294967296
  cap : n ≤ c
  cap2 : c ≤ 9223372036854775807
theorem MarksIn.below {a : Option Addr} {n c : Nat} {rs : List MR} {xs : List Mk.M} {w w' : World} (h : MarksIn a n c rs xs w) (hb : Below w.heap.size w w') : MarksIn a n c rs xs w' := ⟨h.row.below hb, h.atts.below hb, h.few, h.cap, h.cap2⟩
theorem MarksIn.len {a : Option Addr} {n c : Nat} {rs : List MR} {xs : List Mk.M} {w : World} (h : MarksIn a n c rs xs w) : xs.length = n := by rw [← h.atts.1, h.row.1]
theorem MarksIn.get {a : Option Addr} {n c : Nat} {rs : List MR} {xs : List Mk.M} {w : World} (h : MarksIn a n c rs xs w) {k : Nat} (hk : k < n) :
    ∃ blk off r x, a = some ⟨blk, off, none⟩ ∧ rs[k]? = some r ∧ xs[k]? = some x ∧ FitM w r x ∧ w.cell? ⟨blk, off + k * 3, none⟩ = some (.int .i64 x.id) ∧ w.cell? ⟨blk, off + k * 3 + 1, none⟩ = some (.string (bs x.name)) ∧ w.cell? ⟨blk, off + k * 3 + 2, none⟩ = some (.slice r.aa r.an r.ac) := by
  obtain ⟨hl, h0 | ⟨blk, off, e, hat⟩⟩ := h.row
  · omega
  obtain ⟨r, hr⟩ : ∃ r, rs[k]? = some r := ⟨_, List.getElem?_eq_getElem (by omega)⟩
  obtain ⟨x, hx⟩ : ∃ x, xs[k]? = some x := ⟨_, List.getElem?_eq_getElem (by have := h.len; omega)⟩
  have f := h.atts.2 k r x hr hx
  obtain ⟨c0, c1, c2⟩ := hat k r hr
  rw [f.id] at c0
  rw [f.name] at c1
  exact ⟨blk, off, r, x, e, hr, hx, f, c0, c1, c2⟩
/-! ### Rows that the call itself has made -/
def mL (rs : List MR) : List Value := rs.flatMap fun r => [.int .i64 r.id, .string (bs r.name), .slice r.aa r.an r.ac]
theorem mL_cons (r : MR) (t : List MR) : mL (r :: t) = [.int .i64 r.id, .string (bs r.name), .slice r.aa r.an r.ac] ++ mL t := rfl
theorem mL_append (a b : List MR) : mL (a ++ b) = mL a ++ mL b := by simp [mL]
theorem mL_len : ∀ (l : List MR), (mL l).length = l.length * 3
  | [] => rfl
  | x :: t => by
    rw [mL_cons, List.length_append, mL_len t, List.length_cons]
    show 3 + t.length * 3 = (t.length + 1) * 3
    omega
theorem mL_get : ∀ (l : List MR) (i : Nat) (r : MR), l[i]? = some r → (mL l)[i * 3]? = some (.int .i64 r.id) ∧ (mL l)[i * 3 + 1]? = some (.string (bs r.name)) ∧ (mL l)[i * 3 + 2]? = some (.slice r.aa r.an r.ac)
  | [], i, x, h => by cases h
  | y :: t, 0, x, h => by
    simp at h
    subst h
    exact ⟨rfl, rfl, rfl⟩
  | y :: t, i + 1, x, h => by
    obtain ⟨h0, h1, h2⟩ := mL_get t i x (by simpa using h)
    have e : mL (y :: t) = .int .i64 y.id :: .string (bs y.name) :: .slice y.aa y.an y.ac :: mL t := rfl
    rw [e, show (i + 1) * 3 = i * 3 + 3 by omega]
    exact ⟨by simpa using h0, by rw [show i * 3 + 3 + 1 = i * 3 + 1 + 3 by omega]; simpa using h1, by rw [show i * 3 + 3 + 2 = i * 3 + 2 + 3 by omega]; simpa using h2⟩
theorem mL_one (l : List MR) : ∀ u ∈ mL l, u.oneCell' = true := by
  intro u hu
  simp only [mL, List.mem_flatMap] at hu
  obtain ⟨r, _, hr⟩ := hu
  simp at hr
  rcases hr with rfl | rfl | rfl <;> rfl
theorem mL_at : ∀ (l : List MR) (j : Nat) (u : Value), (mL l)[j]? = some u → ∃ i r, l[i]? = some r ∧ ((j = i * 3 ∧ u = .int .i64 r.id) ∨ (j = i * 3 + 1 ∧ u = .string (bs r.name)) ∨ (j = i * 3 + 2 ∧ u = .slice r.aa r.an r.ac))
  | [], j, u, h => by simp [mL] at h
  | r :: t, 0, u, h => ⟨0, r, rfl, .inl ⟨rfl, by simpa [mL] using h.symm⟩⟩
  | r :: t, 1, u, h => ⟨0, r, rfl, .inr (.inl ⟨rfl, by simpa [mL] using h.symm⟩)⟩
  | r :: t, 2, u, h => ⟨0, r, rfl, .inr (.inr ⟨rfl, by simpa [mL] using h.symm⟩)⟩
  | r :: t, j + 3, u, h => by
    have e : mL (r :: t) = .int .i64 r.id :: .string (bs r.name) :: .slice r.aa r.an r.ac :: mL t := rfl
    rw [e] at h
    obtain ⟨i, r', h1, h2⟩ := mL_at t j u (by simpa using h)
    exact ⟨i + 1, r', by simpa using h1, h2.imp (fun q => ⟨by omega, q.2⟩) (·.imp (fun q => ⟨by omega, q.2⟩) (fun q => ⟨by omega, q.2⟩))⟩
theorem info_mark : (Try.prog.info? 25).map (fun i => (i.zero, i.size, i.bytes)) = some (some (.agg #[.int .i64 0, .string ⟨#[]⟩, .slice none 0 0]), 3, 48) := by kernel_rfl
/-- What may be written: the block of a list that the call itself has made, no older than base. -/
def NewB (w : World) (base : Nat) (T : TypeId) (a : Option Addr) (n : Nat) : Prop := n = 0 ∨ ∃ b off cs, a = some ⟨b, off, none⟩ ∧ BlkW w b cs T ∧ base ≤ b
theorem own_rowM {w : World} {base : Nat} {v : Value} {l : List MR} (h : w.ownsRow base 25 3 v l.length (mL l)) :
    ∃ a cap, v = .slice a l.length cap ∧ RowM w a l.length l ∧ l.length ≤ cap ∧ cap ≤ maxLen ∧ NewB w base 25 a l.length ∧ (a = none → cap = 0) := by
  obtain ⟨_, ⟨rfl, h0⟩ | ⟨g, cap, cur, rfl, hb, hg, hn, hc, hcs, ht⟩⟩ := h
  · exact ⟨none, 0, by rw [h0], ⟨rfl, .inl h0⟩, by omega, by unfold maxLen; omega, .inl h0, fun _ => rfl⟩
  · refine ⟨_, cap, rfl, ⟨rfl, .inr ⟨g, 0, rfl, fun i x hi => ?_⟩⟩, hn, hc, .inr ⟨g, 0, cur, rfl, hg, hb⟩, fun e => (by cases e)⟩
    have hlt : i < l.length := (List.getElem?_eq_some_iff.1 hi).1
    obtain ⟨h0, h1, h2⟩ := mL_get l i x hi
    rw [← ht, List.getElem?_take_of_lt (by omega)] at h0 h1 h2
    simp only [World.cell?, Nat.zero_add, hg]
    exact ⟨by simpa using h0, by simpa using h1, by simpa using h2⟩
/-- 'append(own, x)', own the call's own row of marks, x just laid in a block of its own. -/
theorem append_m {w : World} {ops : Array Oper} {rest : List Oper} {o : Oper} {a : Act} {Q : Exit → Act → World → Prop} (hgd : o.guard = none) (s y : Operand)
    (ho : o.op = .call { callee := .builtin .append, args := #[s, y], argTypes := #[22, 22] })
    (base : Nat) (v : Value) (acc : List MR) (hs : a.eval s = v) (hown : w.ownsRow base 25 3 v acc.length (mL acc))
    (g c : Nat) (x : MR) (hx : a.eval y = .slice (some ⟨g, 0, none⟩) 1 c) (hnew : BlkW w g #[.int .i64 x.id, .string (bs x.name), .slice x.aa x.an x.ac] 25)
    (hlen : acc.length + 1 ≤ 4294967296) (hbase : base ≤ w.heap.size)
    (h : ∀ v' w', w'.ownsRow base 25 3 v' (acc ++ [x]).length (mL (acc ++ [x])) → w.grownBy w' v.ownBlock → wpList Try.prog ops Q rest (a.put o.dst v') w') : wpList Try.prog ops Q (o :: rest) a w := by
  obtain ⟨i0, hi, hz0, hz1, hz2⟩ := info_parts info_mark
  refine wpList_append_own w hgd s y 22 ho base 25 i0 (.agg #[.int .i64 0, .string ⟨#[]⟩, .slice none 0 0]) 3 48 Try.underlying22 hi hz0 hz1 hz2 rfl (by decide) v acc.length (mL acc) hs hown ⟨g, 0, none⟩ 1 c (mL [x]) hx rfl ?_ (mL_one [x]) (by unfold maxLen; omega) (by omega) hbase ?_
  · intro j u hj
    rw [addr_add, Nat.zero_add, hnew.cell]
    rw [show mL [x] = [.int .i64 x.id, .string (bs x.name), .slice x.aa x.an x.ac] from rfl] at hj
    simpa using hj
  · intro v' w' h1 h2 _
    refine h v' w' ?_ h2
    rw [List.length_append, mL_append]
    exact h1
/-- 'append(own, x...)', own the call's own row of marks, x whatever row. -/
theorem append_ms {w : World} {ops : Array Oper} {rest : List Oper} {o : Oper} {a : Act} {Q : Exit → Act → World → Prop} (hgd : o.guard = none) (s y : Operand)
    (ho : o.op = .call { callee := .builtin .append, args := #[s, y], argTypes := #[22, 22] })
    (base : Nat) (v : Value) (acc : List MR) (hs : a.eval s = v) (hown : w.ownsRow base 25 3 v acc.length (mL acc))
    (ad : Addr) (m c : Nat) (new : List MR) (hx : a.eval y = .slice (some ad) m c) (hS : RowM w (some ad) m new) (hm0 : m ≤ c)
    (hlen : acc.length + m ≤ 4294967296) (hbase : base ≤ w.heap.size)
    (h : ∀ v' w', w'.ownsRow base 25 3 v' (acc ++ new).length (mL (acc ++ new)) → w.grownBy w' v.ownBlock → wpList Try.prog ops Q rest (a.put o.dst v') w') : wpList Try.prog ops Q (o :: rest) a w := by
  obtain ⟨i0, hi, hz0, hz1, hz2⟩ := info_parts info_mark
  refine wpList_append_own w hgd s y 22 ho base 25 i0 (.agg #[.int .i64 0, .string ⟨#[]⟩, .slice none 0 0]) 3 48 Try.underlying22 hi hz0 hz1 hz2 rfl (by decide) v acc.length (mL acc) hs hown ad m c (mL new) hx (by rw [mL_len, hS.1]) ?_ (mL_one new) (by unfold maxLen; omega) (by omega) hbase ?_
  · intro j u hj
    obtain ⟨i, r, hr, hu⟩ := mL_at new j u hj
    obtain ⟨hll, h0 | ⟨b', off', e, hat⟩⟩ := hS
    · have := (List.getElem?_eq_some_iff.1 hr).1
      omega
    · cases e
      rw [addr_add]
      obtain ⟨c0, c1, c2⟩ := hat i r hr
      rcases hu with ⟨rfl, rfl⟩ | ⟨rfl, rfl⟩ | ⟨rfl, rfl⟩
      · exact c0
      · rw [← Nat.add_assoc]; exact c1
      · rw [← Nat.add_assoc]; exact c2
  · intro v' w' h1 h2 _
    refine h v' w' ?_ h2
    rw [List.length_append, mL_append, hS.1]
    exact h1
end Go.Proofs.Ytmgbjkekfejnfaa
