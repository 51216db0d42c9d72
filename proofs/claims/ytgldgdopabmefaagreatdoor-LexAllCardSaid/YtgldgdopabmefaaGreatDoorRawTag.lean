/- A list of bytes as a text. What Text of layer 8 tells, as a value. Lists of pairs of texts in memory (a struct of two strings), and when two lists are alike. Laws: appending lists of attributes to the call's own row. Walks: package raw: whether a tag begins with a sign, and the first that does. -/
import Derived.Test.YtgldgdopabmefaaGreatDoorGnd
import Derived.Test.YtgldgdopabmefaaGreatDoorRefRaw
import Derived.Test.YtgldgdopabmefaaGreatDoorRawLw
import Derived.Test.YtgldgdopabmefaaGreatDoorChar
import Derived.Laws.AppendOwnNone
import Derived.Deep.RegionLaw
import Derived.IntWalk
import Derived.Deep.LoopGhost
import Derived.Deep.RegionHeld3
namespace Go.Proofs.YtgldgdopabmefaaGreatDoor
open Go.RowKit Go.Lib

def bs (l : List UInt8) : ByteArray := ⟨l.toArray⟩
end Go.Proofs.YtgldgdopabmefaaGreatDoor
namespace Go.Proofs.YtgldgdopabmefaaGreatDoor
open Go.RowKit Go.Lib
set_option maxRecDepth 100000
set_option linter.unusedVariables false

/-- What Text tells. -/
def rawV (l : List UInt8) (i : Int) (small : List UInt8) (mode : Nat) : Value :=
  if Raw.okB l i mode = true then .tuple #[.string (bs (Raw.textOf mode ((l.drop i.toNat).take (Raw.far small mode (l.drop i.toNat))))), .int .i64 (i + (Raw.far small mode (l.drop i.toNat) : Nat))]
  else .tuple #[.string ⟨#[]⟩, .int .i64 i]
theorem rawV_yes {l small : List UInt8} {n mode k : Nat} (hn : n ≤ l.length) (h1 : 1 ≤ mode) (h4 : mode ≤ 4) (hk : Raw.far small mode (l.drop n) = k) : rawV l n small mode = .tuple #[.string (bs (Raw.textOf mode ((l.drop n).take k))), .int .i64 ((n : Int) + (k : Int))] := by
  unfold rawV Raw.okB
  rw [if_pos (by rw [decide_eq_true (by omega), decide_eq_true (by omega), decide_eq_true h1, decide_eq_true h4]; rfl), show ((n : Int)).toNat = n by omega, hk]
theorem rawV_no {l small : List UInt8} {i : Int} {mode : Nat} (h : i < 0 ∨ (l.length : Int) < i ∨ mode < 1 ∨ 4 < mode) : rawV l i small mode = .tuple #[.string ⟨#[]⟩, .int .i64 i] := by
  unfold rawV Raw.okB
  rw [if_neg]
  intro e
  simp only [Bool.and_eq_true, decide_eq_true_eq] at e
  omega
theorem rawV_form (l : List UInt8) (i : Int) (small : List UInt8) (m : Nat) : ∃ (X : ByteArray) (n : Int), rawV l i small m = .tuple #[.string X, .int .i64 n] := by
  unfold rawV
  split
  · exact ⟨_, _, rfl⟩
  · exact ⟨_, _, rfl⟩
end Go.Proofs.YtgldgdopabmefaaGreatDoor
namespace Go.Proofs.YtgldgdopabmefaaGreatDoor
open Go.RowKit Go.Lib
set_option maxRecDepth 100000
set_option linter.unusedVariables false

/-- A list of pairs of texts. -/
def IsA (w : World) (a : Option Addr) (len : Nat) (ls : List (List UInt8 × List UInt8)) : Prop :=
  ls.length = len ∧ (len = 0 ∨ ∃ b off, a = some ⟨b, off, none⟩ ∧ ∀ i x, ls[i]? = some x → w.cell? ⟨b, off + i * 2, none⟩ = some (.string (bs x.1)) ∧ w.cell? ⟨b, off + i * 2 + 1, none⟩ = some (.string (bs x.2)))
theorem IsA.below {w w' : World} {a : Option Addr} {len : Nat} {ls : List (List UInt8 × List UInt8)} (h : IsA w a len ls) (hb : Below w.heap.size w w') : IsA w' a len ls := by
  refine ⟨h.1, h.2.elim .inl fun ⟨b, off, e, hat⟩ => .inr ⟨b, off, e, fun i x hi => ?_⟩⟩
  obtain ⟨h1, h2⟩ := hat i x hi
  have hlt : b < w.heap.size := by
    rcases Nat.lt_or_ge b w.heap.size with h' | h'
    · exact h'
    · simp [World.cell?, Array.getElem?_eq_none h'] at h1
  exact ⟨(hb.cell (p := ⟨b, off + i * 2, none⟩) hlt).trans h1, (hb.cell (p := ⟨b, off + i * 2 + 1, none⟩) hlt).trans h2⟩
theorem IsA.take {w : World} {a : Option Addr} {len : Nat} {ls : List (List UInt8 × List UInt8)} (h : IsA w a len ls) (k : Nat) (hk : k ≤ len) : IsA w a k (ls.take k) := by
  refine ⟨by rw [List.length_take, h.1]; omega, ?_⟩
  rcases h.2 with h0 | ⟨b, off, e, hat⟩
  · exact .inl (by omega)
  · refine .inr ⟨b, off, e, fun i x hi => hat i x ?_⟩
    have hlt : i < (ls.take k).length := (List.getElem?_eq_some_iff.1 hi).1
    rw [List.length_take] at hlt
    rwa [List.getElem?_take_of_lt (by omega)] at hi
theorem bs_inj {x y : List UInt8} (h : (bs x).toList = (bs y).toList) : x = y := by
  rw [ByteArray.toList_eq, ByteArray.toList_eq] at h
  exact h
theorem take_more {α : Type} {l m : List α} {k : Nat} {x : α} (h : l.take k = m.take k) (hl : l[k]? = some x) (hm : m[k]? = some x) : l.take (k + 1) = m.take (k + 1) := by
  rw [List.take_add_one, List.take_add_one, h, hl, hm]
theorem take_all {α : Type} {l m : List α} {k n : Nat} (h : l.take k = m.take k) (hl : l.length = n) (hm : m.length = n) (hk : ¬ k < n) : l = m := by
  rwa [List.take_of_length_le (by omega), List.take_of_length_le (by omega)] at h
theorem get_ne {α : Type} {l m : List α} {k : Nat} {x y : α} (hl : l[k]? = some x) (hm : m[k]? = some y) (h : x ≠ y) : ¬ l = m := by
  intro e
  rw [e, hm] at hl
  exact h (Option.some.inj hl).symm
def pairL (ls : List (List UInt8 × List UInt8)) : List Value := ls.flatMap fun x => [Value.string (bs x.1), Value.string (bs x.2)]
theorem pairL_get : ∀ (ls : List (List UInt8 × List UInt8)) (i : Nat) (x : List UInt8 × List UInt8), ls[i]? = some x → (pairL ls)[i * 2]? = some (.string (bs x.1)) ∧ (pairL ls)[i * 2 + 1]? = some (.string (bs x.2))
  | [], i, x, h => by simp at h
  | y :: t, 0, x, h => by
    simp at h
    subst h
    exact ⟨rfl, rfl⟩
  | y :: t, i + 1, x, h => by
    have h1 := pairL_get t i x (by simpa using h)
    have e : pairL (y :: t) = Value.string (bs y.1) :: Value.string (bs y.2) :: pairL t := rfl
    rw [e, show (i + 1) * 2 = i * 2 + 2 by omega]
    exact ⟨by simpa using h1.1, by simpa using h1.2⟩
theorem pairL_len (ls : List (List UInt8 × List UInt8)) : (pairL ls).length = ls.length * 2 := by
  induction ls with
  | nil => rfl
  | cons a t ih =>
    have e : pairL (a :: t) = Value.string (bs a.1) :: Value.string (bs a.2) :: pairL t := rfl
    rw [e, List.length_cons, List.length_cons, List.length_cons, ih]; omega
theorem pairL_append (a b : List (List UInt8 × List UInt8)) : pairL (a ++ b) = pairL a ++ pairL b := by simp [pairL]
theorem isA_of_cells {W : World} {g : Nat} {ls : List (List UInt8 × List UInt8)} {C : Array Value} {t : TypeId} {fr : Nat × Nat} {n : Nat} (hn : ls.length = n) (h : W.heap[g]? = some (.cells C t fr)) (hC : C.toList = pairL ls) : IsA W (some ⟨g, 0, none⟩) n ls := by
  refine ⟨hn, .inr ⟨g, 0, rfl, fun i x hi => ?_⟩⟩
  obtain ⟨h1, h2⟩ := pairL_get ls i x hi
  rw [← hC, Array.getElem?_toList] at h1 h2
  rw [Nat.zero_add]
  simp only [World.cell?, h]
  exact ⟨by simpa using h1, by simpa using h2⟩
theorem pairs_one (ls : List (List UInt8 × List UInt8)) : ∀ u ∈ pairL ls, u.oneCell' = true := by
  intro u hu
  simp only [pairL, List.mem_flatMap] at hu
  obtain ⟨b, _, hb⟩ := hu
  simp at hb
  rcases hb with rfl | rfl <;> rfl
theorem pairL_at : ∀ (ls : List (List UInt8 × List UInt8)) (j : Nat) (u : Value), (pairL ls)[j]? = some u → ∃ i x, ls[i]? = some x ∧ ((j = i * 2 ∧ u = .string (bs x.1)) ∨ (j = i * 2 + 1 ∧ u = .string (bs x.2)))
  | [], j, u, h => by simp [pairL] at h
  | y :: t, 0, u, h => ⟨0, y, rfl, .inl ⟨rfl, by
      have e : pairL (y :: t) = Value.string (bs y.1) :: Value.string (bs y.2) :: pairL t := rfl
      rw [e] at h
      simpa using h.symm⟩⟩
  | y :: t, 1, u, h => ⟨0, y, rfl, .inr ⟨rfl, by
      have e : pairL (y :: t) = Value.string (bs y.1) :: Value.string (bs y.2) :: pairL t := rfl
      rw [e] at h
      simpa using h.symm⟩⟩
  | y :: t, j + 2, u, h => by
    have e : pairL (y :: t) = Value.string (bs y.1) :: Value.string (bs y.2) :: pairL t := rfl
    rw [e] at h
    obtain ⟨i, x, h1, h2⟩ := pairL_at t j u (by simpa using h)
    exact ⟨i + 1, x, by simpa using h1, h2.imp (fun ⟨a, b⟩ => ⟨by omega, b⟩) (fun ⟨a, b⟩ => ⟨by omega, b⟩)⟩
theorem isA_cells {w : World} {ad : Addr} {n : Nat} {ls : List (List UInt8 × List UInt8)} (h : IsA w (some ad) n ls) : ∀ j u, (pairL ls)[j]? = some u → w.cell? (ad.add j) = some u := by
  intro j u hj
  obtain ⟨i, x, hi, hx⟩ := pairL_at ls j u hj
  rcases h.2 with h0 | ⟨b', o', e, hat⟩
  · have hl : ls = [] := List.length_eq_zero_iff.1 (by rw [h.1, h0])
    subst hl
    cases hi
  · obtain rfl := Option.some.inj e
    obtain ⟨h1, h2⟩ := hat i x hi
    rw [addr_add]
    rcases hx with ⟨rfl, rfl⟩ | ⟨rfl, rfl⟩
    · exact h1
    · rw [← Nat.add_assoc]; exact h2
end Go.Proofs.YtgldgdopabmefaaGreatDoor
namespace Go.Proofs.YtgldgdopabmefaaGreatDoor
open Go.RowKit Go.Lib
set_option maxRecDepth 100000
set_option linter.unusedVariables false

theorem info_attr : (Tryz.prog.info? 53).map (fun i => (i.zero, i.size, i.bytes)) = some (some (.agg #[.string ⟨#[]⟩, .string ⟨#[]⟩]), 2, 32) := by kernel_rfl
theorem own_isT' {w : World} {base : Nat} {v : Value} {ls : List (List UInt8 × List UInt8)} (h : w.ownsRow base 53 2 v ls.length (pairL ls)) :
    ∃ a cap, v = .slice a ls.length cap ∧ IsA w a ls.length ls ∧ ls.length ≤ cap ∧ cap ≤ maxLen ∧ (∀ x, a = some x → base ≤ x.block) ∧ (a = none → cap = 0) := by
  obtain ⟨_, ⟨rfl, h0⟩ | ⟨g, cap, cur, rfl, hb, hg, hn, hc, hcs, ht⟩⟩ := h
  · exact ⟨none, 0, by rw [h0], ⟨rfl, .inl h0⟩, by omega, by unfold maxLen; omega, (fun x e => by cases e), fun _ => rfl⟩
  · refine ⟨_, cap, rfl, ⟨rfl, .inr ⟨g, 0, rfl, fun i x hi => ?_⟩⟩, hn, hc, (fun x e => by cases e; exact hb), (fun e => by cases e)⟩
    have hlt : i < ls.length := (List.getElem?_eq_some_iff.1 hi).1
    obtain ⟨h1, h2⟩ := pairL_get ls i x hi
    rw [← ht, List.getElem?_take_of_lt (by omega)] at h1 h2
    simp only [World.cell?, Nat.zero_add, hg]
    exact ⟨by simpa using h1, by simpa using h2⟩
/-- The block that a list of attributes lies in is one of attributes. -/
def TypB (w : World) (a : Option Addr) : Prop := ∀ x, a = some x → ∃ cs fr, w.heap[x.block]? = some (.cells cs 53 fr)
theorem own_typ {w : World} {base m n cp : Nat} {ad : Option Addr} {xs : List Value} (h : w.ownsRow base 53 2 (.slice ad n cp) m xs) : TypB w ad := by
  obtain ⟨_, ⟨e, _⟩ | ⟨g, cap, cur, e, _, hg, _⟩⟩ := h
  · cases e
    exact fun x hx => by cases hx
  · cases e
    exact fun x hx => by cases hx; exact ⟨cur, (0, 0), hg⟩
theorem TypB.heap {w w' : World} {a : Option Addr} (h : TypB w a) (hb : ∀ x, a = some x → w'.heap[x.block]? = w.heap[x.block]?) : TypB w' a := fun x hx => by
  rw [hb x hx]
  exact h x hx
theorem TypB.lt {w : World} {a : Option Addr} (h : TypB w a) (x : Addr) (hx : a = some x) : x.block < w.heap.size := by
  obtain ⟨cs, fr, hc⟩ := h x hx
  rcases Nat.lt_or_ge x.block w.heap.size with h1 | h1
  · exact h1
  · rw [Array.getElem?_eq_none h1] at hc; cases hc
theorem TypB.below {w w' : World} {a : Option Addr} (h : TypB w a) (hb : Below w.heap.size w w') : TypB w' a := h.heap fun x hx => hb.block _ (h.lt x hx)
/-- A block of another type is not theirs. -/
theorem TypB.ne {w : World} {a : Option Addr} {g : Nat} {cs : Array Value} {T : TypeId} {fr : Nat × Nat} (h : TypB w a) (hg : w.heap[g]? = some (.cells cs T fr)) (hT : T ≠ 53) (x : Addr) (hx : a = some x) : x.block ≠ g := by
  obtain ⟨cs', fr', hc⟩ := h x hx
  intro e
  rw [e, hg] at hc
  cases hc
  exact hT rfl
theorem append_T {w : World} {ops : Array Oper} {rest : List Oper} {o : Oper} {a : Act} {Q : Exit → Act → World → Prop} (hgd : o.guard = none) (s x : Operand)
    (ho : o.op = .call { callee := .builtin .append, args := #[s, x], argTypes := #[22, 22] })
    (base : Nat) (v : Value) (acc : List (List UInt8 × List UInt8)) (hs : a.eval s = v) (hown : w.ownsRow base 53 2 v acc.length (pairL acc))
    (ad : Option Addr) (m c : Nat) (new : List (List UInt8 × List UInt8)) (hx : a.eval x = .slice ad m c) (hS : IsA w ad m new) (hn : ad = none → c = 0)
    (hlen : acc.length + m ≤ 4294967296) (hbase : base ≤ w.heap.size)
    (h : ∀ v' w', w'.ownsRow base 53 2 v' (acc ++ new).length (pairL (acc ++ new)) → w.grownBy w' v.ownBlock → wpList Tryz.prog ops Q rest (a.put o.dst v') w') : wpList Tryz.prog ops Q (o :: rest) a w := by
  obtain ⟨i0, hi, hz0, hz1, hz2⟩ := info_parts info_attr
  cases ad with
  | none =>
    have hc := hn rfl
    subst hc
    have hm : m = 0 := hS.2.elim id fun ⟨b, off, e, _⟩ => by cases e
    subst hm
    have hnew : new = [] := List.length_eq_zero_iff.1 hS.1
    subst hnew
    refine wpList_append_own_none hgd s x 22 ho base 53 i0 2 Tryz.underlying22 hi v acc.length (pairL acc) hs hown hx (h v w ?_ (World.grownBy.refl _ _))
    rw [List.append_nil]
    exact hown
  | some ad =>
    have hcl := isA_cells hS
    refine wpList_append_own w hgd s x 22 ho base 53 i0 (.agg #[.string ⟨#[]⟩, .string ⟨#[]⟩]) 2 32 Tryz.underlying22 hi hz0 hz1 hz2 rfl (by decide) v acc.length (pairL acc) hs hown ad m c (pairL new) hx (by rw [pairL_len, hS.1]) hcl (pairs_one new) (by unfold maxLen; omega) (by omega) hbase ?_
    intro v' w' h1 h2 _
    refine h v' w' ?_ h2
    rw [List.length_append, pairL_append, hS.1]
    exact h1
theorem step_T1 {w : World} {ops : Array Oper} {o : Oper} {a : Act} {K : Act → World → Prop} {Q : Exit → Act → World → Prop} {E : Prop} (hgd : o.guard = none) (s x : Operand)
    (ho : o.op = .call { callee := .builtin .append, args := #[s, x], argTypes := #[22, 22] })
    (base : Nat) (v : Value) (acc : List (List UInt8 × List UInt8)) (hs : a.eval s = v) (hown : w.ownsRow base 53 2 v acc.length (pairL acc))
    (ad : Addr) (c : Nat) (l : List UInt8 × List UInt8) (hx : a.eval x = .slice (some ad) 1 c) (hnew : w.cell? (ad.add 0) = some (.string (bs l.1))) (hnew2 : w.cell? (ad.add 1) = some (.string (bs l.2)))
    (hlen : acc.length + 1 ≤ 4294967296) (hbase : base ≤ w.heap.size)
    (h : ∀ v' w', w'.ownsRow base 53 2 v' (acc ++ [l]).length (pairL (acc ++ [l])) → w.grownBy w' v.ownBlock → K (a.put o.dst v') w') :
    if Region.wanted o (yielded ops a.tmps) = true then Oper.wp Tryz.prog o a w K Q else E := by
  have hw : Region.wanted o (yielded ops a.tmps) = true := by simp [Region.wanted, hgd]
  rw [if_pos hw]
  obtain ⟨i0, hi, hz0, hz1, hz2⟩ := info_parts info_attr
  refine wp_append_own w s x 22 ho base 53 i0 (.agg #[.string ⟨#[]⟩, .string ⟨#[]⟩]) 2 32 Tryz.underlying22 hi hz0 hz1 hz2 rfl (by decide) v acc.length (pairL acc) hs hown ad 1 c (pairL [l]) hx rfl ?_ (pairs_one [l]) (by unfold maxLen; omega) (by omega) hbase ?_
  · intro j u hj
    match j, hj with
    | 0, hj =>
      simp [pairL] at hj
      subst hj
      exact hnew
    | 1, hj =>
      simp [pairL] at hj
      subst hj
      exact hnew2
    | j + 2, hj => simp [pairL] at hj
  · intro v' w' h1 h2 _
    refine h v' w' ?_ h2
    rw [List.length_append, pairL_append]
    exact h1
end Go.Proofs.YtgldgdopabmefaaGreatDoor
namespace Go.Proofs.YtgldgdopabmefaaGreatDoor
open Go.RowKit Go.Lib
set_option maxRecDepth 100000
set_option linter.unusedVariables false

theorem rp_one (s : ByteArray) (k : Nat) (hk : k < s.size) : s.extract k (k + 1) = bs [s[k]'hk] := by
  apply ByteArray.ext
  apply Array.ext'
  rw [extract_data]
  show (s.data.toList.drop k).take (k + 1 - k) = [s[k]'hk]
  rw [List.drop_eq_getElem_cons (by rw [size_list]; exact hk), show k + 1 - k = 1 by omega]
  rfl
theorem rp_at (s : ByteArray) (k : Nat) (hk : k < s.size) : s.data.toList[k]? = some (s[k]'hk) := by
  rw [List.getElem?_eq_getElem (by rw [size_list]; exact hk)]
  rfl
theorem rp_drop (s : ByteArray) (k : Nat) : (s.extract k s.size).data.toList = s.data.toList.drop k := by
  rw [extract_data, List.take_of_length_le]
  rw [List.length_drop, size_list]
  exact Nat.le_refl _
theorem rp_low (c : UInt8) : (⟨(lowL (bs [c]).data.toList).toArray⟩ : ByteArray) = bs [lowC c] := rfl
theorem rp_eq (c d : UInt8) : ((bs [c]).toList == (bs [d]).toList) = decide (c = d) := by
  rw [ByteArray.toList_eq, ByteArray.toList_eq, Bool.eq_iff_iff]
  show (([c] : List UInt8) == [d]) = true ↔ _
  simp
set_option maxHeartbeats 4000000 in
theorem begtag_any (s sg : ByteArray) (w : World) (hs : s.size ≤ 1000000) (hps : sg.size ≤ 1000000) :
    Calls Tryz.prog 47 #[.string s, .string sg] w fun e w' => e = .returned (.bool (Raw.endsB s.data.toList sg.data.toList)) ∧ Below w.heap.size w w' := by
  have hsl := size_list s
  have hpl := size_list sg
  by_cases hlen : s.size ≤ sg.size
  · rw [Raw.ends_short (by omega)]
    have d1 : decide ((s.size : Int) ≤ (sg.size : Int)) = true := decide_eq_true (by omega)
    have d1N : decide (s.size ≤ sg.size) = true := decide_eq_true hlen
    clear hsl hpl
    go_enter Tryz.func47, Tryz.ntmps47
    go_wp2
    go_ret
    exact ⟨rfl, Below.refl _ _⟩
  have d1 : decide ((s.size : Int) ≤ (sg.size : Int)) = false := decide_eq_false (by omega)
  have d1N : decide (s.size ≤ sg.size) = false := decide_eq_false hlen
  have HSL := hid hsl
  have HPL := hid hpl
  have HO := hid (rp_one s)
  have HP := hid (rp_one sg)
  have HA := hid (rp_at s)
  have HB := hid (rp_at sg)
  have hlt0 : sg.size < s.size := by omega
  obtain ⟨z, hz⟩ : ∃ z, Raw.endsB s.data.toList sg.data.toList = z := ⟨_, rfl⟩
  have HZ := hid hz
  rw [hz]
  clear hsl hpl hz
  go_enter Tryz.func47, Tryz.ntmps47
  go_wp2
  go_loopg [14] sg.size (fun g iv wr => ∃ k : Nat, k + g = sg.size ∧ iv = .int .i64 k ∧ Hid (lowL (s.data.toList.take k) = sg.data.toList.take k) ∧ Hid (Below w.heap.size w wr))
  case atStart => exact ⟨0, by omega, rfl, hid rfl, hid (Below.refl _ _)⟩
  case round =>
    obtain ⟨k, hk, rfl, hI, hB⟩ := hrel
    by_cases hlt : k < sg.size
    · have e1 : decide (k < sg.size) = true := decide_eq_true hlt
      have hltI : (k : Int) < (sg.size : Int) := by omega
      have hlts : k < s.size := by omega
      have ho := HO.out k hlts
      have hp := HP.out k hlt
      have ha := HA.out k hlts
      have hb := HB.out k hlt
      obtain ⟨c, hc⟩ : ∃ c, s[k]'hlts = c := ⟨_, rfl⟩
      obtain ⟨d, hd⟩ : ∃ d, sg[k]'hlt = d := ⟨_, rfl⟩
      rw [hc] at ho ha
      rw [hd] at hp hb
      have L := fun W => clower_any (bs [c]) W (by show 1 ≤ _; omega)
      rw [rp_low] at L
      have L := hid L
      have q1 : ((k : Int)).toNat = k := by omega
      have q2 : (0 : Int) ≤ (k : Int) := by omega
      have q3 : (k : Int) ≤ (k : Int) + 1 := by omega
      have q4 : (0 : Int) ≤ (k : Int) + 1 := by omega
      have q5 : ((k : Int) + 1).toNat = k + 1 := by omega
      have q6 : (k : Int) + 1 ≤ (s.size : Int) := by omega
      have q7 : (k : Int) + 1 ≤ (sg.size : Int) := by omega
      have q8 : IntKind.i64.wrap ((k : Int) + 1) = (k : Int) + 1 := IntWalk.i64_in _ (by omega)
      have e0 : Below wr.heap.size wr wr := Below.refl _ _
      by_cases hcd : lowC c = d
      · have v1 : ((bs [lowC c]).toList == (bs [d]).toList) = true := by rw [rp_eq, decide_eq_true hcd]
        have v2 : ((bs [lowC c]).toList != (bs [d]).toList) = false := by unfold bne; rw [v1]; rfl
        have v3 : (bs [lowC c]).toList = (bs [d]).toList := by rw [hcd]
        have HN := hid (Raw.word_go hI.out ha hb hcd)
        generalize bs [c] = C at *
        generalize bs [lowC c] = LC at *
        generalize bs [d] = D at *
        clear hI ha hb hc hd hcd
        go_wp2
        go_region_held3 (fun w' => Below wr.heap.size wr w') (first | exact e1 | exact e0.drew | exact e0)
          (first
            | (go_at_call 24; with_reducible refine (L.out _).mono ?_; rintro e w3 ⟨rfl, b3⟩; have e1 := e0.drew.trans (b3.mono e0.drew.size)))
        have HBn := hid (hB.out.trans (e1.mono hB.out.size))
        clear e0 e1 b3 hB L
        go_wp2
        go_roundg (sg.size - (k + 1))
        case measure => omega
        case rel => exact ⟨k + 1, by omega, by go_num, HN, HBn⟩
      · have v1 : ((bs [lowC c]).toList == (bs [d]).toList) = false := by rw [rp_eq, decide_eq_false hcd]
        have v2 : ((bs [lowC c]).toList != (bs [d]).toList) = true := by unfold bne; rw [v1]; rfl
        have v3 : ¬ (bs [lowC c]).toList = (bs [d]).toList := by
          intro h
          rw [h] at v1
          simp at v1
        have HN := hid (Raw.ends_bad (Raw.word_bad ha hb hcd))
        generalize bs [c] = C at *
        generalize bs [lowC c] = LC at *
        generalize bs [d] = D at *
        clear hI ha hb hc hd hcd
        go_wp2
        go_region_held3 (fun w' => Below wr.heap.size wr w') (first | exact e1 | exact e0.drew | exact e0)
          (first
            | (go_at_call 24; with_reducible refine (L.out _).mono ?_; rintro e w3 ⟨rfl, b3⟩; have e1 := e0.drew.trans (b3.mono e0.drew.size)))
        have HBn := hid (hB.out.trans (e1.mono hB.out.size))
        clear e0 e1 b3 hB L
        go_wp2
        go_ret
        exact ⟨by rw [← HZ.out, HN.out]; first | done | rfl, HBn.out⟩
    · have e1 : decide (k < sg.size) = false := decide_eq_false hlt
      have hltI : ¬ (k : Int) < (sg.size : Int) := by omega
      have hkk : k = sg.size := by omega
      have q1 : ((sg.size : Int)).toNat = sg.size := by omega
      have q2 : (0 : Int) ≤ (sg.size : Int) := by omega
      have q3 : (sg.size : Int) < (s.size : Int) := by omega
      have hw : Raw.wordB s.data.toList sg.data.toList = true := Raw.word_yes (by rw [HSL.out, HPL.out]; omega) (by rw [HPL.out, ← hkk]; exact hI.out)
      have hE := Raw.ends_yes (by rw [HSL.out, HPL.out]; exact hlt0) hw
      rw [HPL.out, HZ.out] at hE
      have hg := get_of s sg.size hlt0
      obtain ⟨c, hc⟩ : ∃ c, s[sg.size]'hlt0 = c := ⟨_, rfl⟩
      rw [hc] at hg
      rw [← hg] at hE
      have hc256 := c.toNat_lt
      have HS := fun W => cspace_any c.toNat (by omega) W
      subst hkk
      clear hw hI hg
      have HBn := hB
      cases h1 : spaceN c.toNat with
      | true =>
        rw [h1] at HS
        rw [h1, Bool.true_or] at hE
        have HE := hid hE
        have HS := hid HS
        clear hE h1
        go_wp2_with fail
        refine (HS.out _).mono ?_
        rintro e w1 ⟨rfl, rfl⟩
        go_wp2
        go_ret
        exact ⟨by rw [HE.out]; first | done | rfl, HBn.out⟩
      | false =>
        rw [h1] at HS
        rw [h1, Bool.false_or] at hE
        have HS := hid HS
        by_cases h47 : c.toNat = 47
        · have t1 : (((c.toNat : Nat) : Int) == 47) = true := by rw [h47]; rfl
          rw [show (c.toNat == 47) = true by simp [h47], Bool.true_or] at hE
          have HE := hid hE
          clear hE h1 h47
          go_wp2_with fail
          refine (HS.out _).mono ?_
          rintro e w1 ⟨rfl, rfl⟩
          go_wp2
          go_ret
          exact ⟨by rw [HE.out]; first | done | rfl, HBn.out⟩
        · have t1 : (((c.toNat : Nat) : Int) == 47) = false := by simp; omega
          rw [show (c.toNat == 47) = false by simp [h47], Bool.false_or] at hE
          have t2 : (((c.toNat : Nat) : Int) == 62) = (c.toNat == 62) := by
            rw [Bool.eq_iff_iff]
            simp
            omega
          have HE := hid hE
          generalize (c.toNat == 62) = y at *
          clear hE h1 h47
          go_wp2_with fail
          refine (HS.out _).mono ?_
          rintro e w1 ⟨rfl, rfl⟩
          go_wp2
          go_ret
          exact ⟨by rw [HE.out]; first | done | rfl, HBn.out⟩
set_option maxHeartbeats 4000000 in
theorem firsttag_any (s sg : ByteArray) (n : Nat) (w : World) (hs : s.size ≤ 1000000) (hps : sg.size ≤ 1000000) (hn : n ≤ s.size) :
    Calls Tryz.prog 25 #[.string s, .int .i64 n, .string sg] w fun e w' => e = .returned (.int .i64 (n + Raw.stop sg.data.toList (s.data.toList.drop n) : Nat)) ∧ Below w.heap.size w w' := by
  have hsl := size_list s
  have HSL := hid hsl
  have HE := hid fun (k : Nat) W => (show Calls _ _ _ _ fun e w' => e = .returned (.bool (Raw.endsB (s.data.toList.drop k) sg.data.toList)) ∧ Below W.heap.size W w' by
    have h := begtag_any (s.extract k s.size) sg W (by rw [← size_list, rp_drop, List.length_drop, hsl]; omega) hps
    rw [rp_drop] at h
    exact h)
  obtain ⟨T, hT⟩ : ∃ T, n + Raw.stop sg.data.toList (s.data.toList.drop n) = T := ⟨_, rfl⟩
  rw [hT]
  have H0 := hid hT
  obtain ⟨sm, hsm⟩ : ∃ sm, sg.data.toList = sm := ⟨_, rfl⟩
  rw [hsm] at HE H0
  clear hsl hT hsm
  go_enter Tryz.func25, Tryz.ntmps25
  go_wp2
  go_loopg [7] (s.size - n) (fun g iv wr => ∃ k : Nat, n ≤ k ∧ k ≤ s.size ∧ s.size - k ≤ g ∧ iv = .int .i64 k ∧ Hid (k + Raw.stop sm (s.data.toList.drop k) = T) ∧ Hid (Below w.heap.size w wr))
  case atStart => exact ⟨n, Nat.le_refl _, hn, Nat.le_refl _, rfl, H0, hid (Below.refl _ _)⟩
  case round =>
    obtain ⟨k, hnk, hks, hg, rfl, hI, hB⟩ := hrel
    have u1 : ((k : Int)).toNat = k := by omega
    have u2 : (0 : Int) ≤ (k : Int) := by omega
    have u3 : (k : Int) ≤ (s.size : Int) := by omega
    by_cases hlt : k < s.size
    · have e1 : decide (k < s.size) = true := decide_eq_true hlt
      have hltI : (k : Int) < (s.size : Int) := by omega
      have hr0 : 0 < (s.data.toList.drop k).length := by rw [List.length_drop, HSL.out]; omega
      have E1 := fun W => HE.out k W
      cases he : Raw.endsB (s.data.toList.drop k) sm with
      | true =>
        rw [he] at E1
        have E1 := hid E1
        have HK : Hid (k = T) := hid (by have h := hI.out; rw [Raw.stop_yes he] at h; omega)
        clear he hI hr0
        go_wp2_with fail
        refine (E1.out _).mono ?_
        rintro e w1 ⟨rfl, b1⟩
        have B1 := hid (hB.out.trans (b1.mono hB.out.size))
        clear b1
        go_wp2
        go_ret
        exact ⟨by rw [HK.out]; first | done | rfl, B1.out⟩
      | false =>
        rw [he] at E1
        have E1 := hid E1
        have HN : Hid (k + 1 + Raw.stop sm (s.data.toList.drop (k + 1)) = T) := hid (by
          have h := hI.out
          rw [Raw.stop_no he hr0, List.drop_drop] at h
          omega)
        clear he hI hr0
        go_wp2_with fail
        refine (E1.out _).mono ?_
        rintro e w1 ⟨rfl, b1⟩
        have B1 := hid (hB.out.trans (b1.mono hB.out.size))
        clear b1
        go_wp2
        go_roundg (s.size - (k + 1))
        case measure => omega
        case rel => exact ⟨k + 1, by omega, by omega, Nat.le_refl _, by go_num, HN, B1⟩
    · have e1 : decide (k < s.size) = false := decide_eq_false hlt
      have hltI : ¬ (k : Int) < (s.size : Int) := by omega
      have hk : k = s.size := by omega
      have HK : Hid (s.size = T) := hid (by
        have h := hI.out
        rw [List.drop_of_length_le (by rw [HSL.out]; omega)] at h
        simpa [Raw.stop, hk] using h)
      clear hI
      go_wp2
      go_ret
      exact ⟨by rw [HK.out]; first | done | rfl, hB.out⟩
end Go.Proofs.YtgldgdopabmefaaGreatDoor
