/- Plain Lean: texts as the chapter on bytes says them, over lists of bytes: what the first bytes are ('front'), what bytes say ('plain'), whether they are a text ('right'). Nothing of a program stands here. Plain Lean: what package marks says, over lists of marks. Nothing of a program stands here. Laws that every walk uses: worlds, byte strings as lists, slices of bytes, what range tells of a string. A list of bytes as a text. Lists of pairs of texts in memory (a struct of two strings), and when two lists are alike. Laws: appending lists of attributes to the call's own row. -/
import Derived.Test.YtlgmjnnfndedbaaProg
import Derived.Lib.RuneBytes
import Derived.Lib.DecodeN
import Derived.Lib.Strings
import Derived.WalkKit
import Derived.WalkLawsBesides
import Derived.Deep.QuietTactic
import Derived.BigQuiet
import Derived.Deep.DeepFit
import Derived.Deep.DeepMust
import Derived.Lib.Hide
import Derived.Lib.LaidU8
import Derived.Lib.OthersKept
import Derived.BigCall
import Derived.Laws.AppendOwn
import Derived.Laws.IdiomStrings
import Derived.Laws.BytesArg
import Derived.Laws.AppendOwnNone
import Derived.Deep.RegionLaw
import Derived.IntWalk
namespace Go.Proofs.Ytlgmjnnfndedbaa.U8
open Go.Lib

/-- Byte j, as a number; 0 beyond the end. -/
def B (l : List UInt8) (j : Nat) : Nat := (l.getD j 0).toNat

/-- May a byte stand second behind one? -/
def sec (a b : Nat) : Bool :=
  if a = 224 then decide (160 ≤ b ∧ b ≤ 191) else if a = 237 then decide (128 ≤ b ∧ b ≤ 159) else if a = 240 then decide (144 ≤ b ∧ b ≤ 191)
  else if a = 244 then decide (128 ≤ b ∧ b ≤ 143) else decide (128 ≤ b ∧ b ≤ 191)
def cont (b : Nat) : Bool := decide (128 ≤ b ∧ b ≤ 191)
/-- Of n bytes that begin b0 b1 b2 b3: how many begin a character together, and is it whole? -/
def frontN (n b0 b1 b2 b3 : Nat) : Nat × Bool :=
  if b0 < 128 then (1, true)
  else if b0 < 194 ∨ 244 < b0 then (1, false)
  else if ¬ (1 < n ∧ sec b0 b1 = true) then (1, false)
  else if b0 < 224 then (2, true)
  else if ¬ (2 < n ∧ cont b2 = true) then (2, false)
  else if b0 < 240 then (3, true)
  else if ¬ (3 < n ∧ cont b3 = true) then (3, false)
  else (4, true)
def front (l : List UInt8) : Nat × Bool := frontN l.length (B l 0) (B l 1) (B l 2) (B l 3)

def bad : List UInt8 := [239, 191, 189]
/-- What the first bytes say. -/
def stepOut (l : List UInt8) : List UInt8 := if (front l).2 = true ∧ B l 0 ≠ 0 then l.take (front l).1 else bad
def plainF : Nat → List UInt8 → List UInt8
  | 0, _ => []
  | f + 1, l => if l = [] then [] else stepOut l ++ plainF f (l.drop (front l).1)
def plain (l : List UInt8) : List UInt8 := plainF l.length l
def rightF : Nat → List UInt8 → Bool
  | 0, _ => true
  | f + 1, l => if l = [] then true else (front l).2 && decide (B l 0 ≠ 0) && rightF f (l.drop (front l).1)
def right (l : List UInt8) : Bool := rightF l.length l
def text (l : List UInt8) : List UInt8 := plain (trimPrefix l [239, 187, 191])

/-! ### bytes -/
theorem B_lt (l : List UInt8) (j : Nat) : B l j < 256 := (l.getD j 0).toNat_lt
theorem B_drop (l : List UInt8) (k j : Nat) : B (l.drop k) j = B l (k + j) := by simp [B, List.getD, List.getElem?_drop]
theorem B_take (l : List UInt8) (k j : Nat) (h : j < k) : B (l.take k) j = B l j := by simp [B, List.getD, h]
theorem B_eq {l : List UInt8} {j : Nat} {c : UInt8} (h : l[j]? = some c) : B l j = c.toNat := by simp [B, List.getD, h]
/-! ### the first bytes -/
/-! ### what bytes say -/
/-! ### a whole beginning says the same, whatever stands behind -/
/-! ### how long it is -/
end Go.Proofs.Ytlgmjnnfndedbaa.U8
namespace Go.Proofs.Ytlgmjnnfndedbaa.Mk
open Go.Lib
set_option maxRecDepth 100000
set_option linter.unusedVariables false

/-- A mark. -/
structure M where
  id : Int
  name : List UInt8
  atts : List (List UInt8 × List UInt8)
/-- The first k without the one at a place. -/
def keepK {α : Type} (l : List α) (skip : Int) : Nat → List α
  | 0 => []
  | k + 1 => match l[k]? with
    | none => keepK l skip k
    | some x => if (k : Int) = skip then keepK l skip k else keepK l skip k ++ [x]
def lastI (l : List M) (name : List UInt8) (b : Nat) : Nat → Int
  | 0 => -1
  | k + 1 => if k < b then -1 else match l[k]? with
    | none => -1
    | some x => if x.name = name then (k : Int) else lastI l name b k
/-! ### Steps -/
theorem keepK_step {α : Type} {l : List α} {skip : Int} {k : Nat} {x : α} (hx : l[k]? = some x) : keepK l skip (k + 1) = if (k : Int) = skip then keepK l skip k else keepK l skip k ++ [x] := by
  conv => lhs; unfold keepK
  rw [hx]
theorem lastI_step {l : List M} {name : List UInt8} {b k : Nat} {x : M} (hb : b ≤ k) (hx : l[k]? = some x) : lastI l name b (k + 1) = if x.name = name then (k : Int) else lastI l name b k := by
  conv => lhs; unfold lastI
  rw [if_neg (by omega), hx]
/-! ### What is left out -/
theorem keepK_none {α : Type} (l : List α) : ∀ k, keepK l (-1) k = l.take k
  | 0 => by simp [keepK]
  | k + 1 => by
    cases hx : l[k]? with
    | none =>
      have : l.length ≤ k := List.getElem?_eq_none_iff.1 hx
      conv => lhs; unfold keepK
      rw [hx, keepK_none l k, List.take_of_length_le this, List.take_of_length_le (by omega)]
    | some x => rw [keepK_step hx, if_neg (by omega), keepK_none l k, List.take_add_one, hx]; rfl
end Go.Proofs.Ytlgmjnnfndedbaa.Mk
namespace Go.Proofs.Ytlgmjnnfndedbaa
open Go.RowKit Go.Lib
set_option maxRecDepth 100000
set_option linter.unusedVariables false

theorem ret_bool' {a b : Bool} (h : a = b) : Ending.returned (.bool a) = .returned (.bool b) := by rw [h]
theorem bel_drewN {B : Nat} {a w : World} (h : Below B a w) (n : Nat) : Below B a (w.drewN n) := h.trans ⟨rfl, rfl, rfl, Nat.le_refl _, fun _ _ => rfl⟩
theorem size_list (s : ByteArray) : s.data.toList.length = s.size := (size_eq s).symm
/-- From here on lie these bytes. -/
def BytesAt (w : World) (b off : Nat) (l : List UInt8) : Prop := ∀ i, i < l.length → w.cell? ⟨b, off + i, none⟩ = some (.int .u8 (U8.B l i))
theorem BytesAt.mono {w w' : World} {b off : Nat} {l : List UInt8} (h : BytesAt w b off l) (hb : ∀ o, w'.cell? ⟨b, o, none⟩ = w.cell? ⟨b, o, none⟩) : BytesAt w' b off l :=
  fun i hi => (hb _).trans (h i hi)
theorem BytesAt.drop {w : World} {b off : Nat} {l : List UInt8} (h : BytesAt w b off l) (k : Nat) : BytesAt w b (off + k) (l.drop k) := by
  intro i hi
  rw [U8.B_drop, Nat.add_assoc]
  exact h (k + i) (by simp at hi; omega)
theorem BytesAt.take {w : World} {b off : Nat} {l : List UInt8} (h : BytesAt w b off l) (k : Nat) : BytesAt w b off (l.take k) := by
  intro i hi
  simp at hi
  rw [U8.B_take _ _ _ (by omega)]
  exact h i (by omega)
/-- A slice of bytes, nil or empty or from somewhere on. -/
def IsB (w : World) (a : Option Addr) (len : Nat) (l : List UInt8) : Prop :=
  l.length = len ∧ (len = 0 ∨ ∃ b off, a = some ⟨b, off, none⟩ ∧ BytesAt w b off l)
theorem addr_add (b off j : Nat) : (⟨b, off, none⟩ : Addr).add j = ⟨b, off + j, none⟩ := by unfold Addr.add; split <;> simp_all
theorem own_below {w w' : World} {base : Nat} {e : TypeId} {size : Nat} {v : Value} {n : Nat} {xs : List Value} (h : w.ownsRow base e size v n xs) (hb : Below w.heap.size w w') : w'.ownsRow base e size v n xs :=
  h.kept (row := none) ⟨hb.os, hb.tape, hb.output, hb.size, fun k hk _ => hb.block k hk⟩ (Classical.em _)
theorem own_ge {w : World} {base : Nat} {e : TypeId} {size : Nat} {v : Value} {n : Nat} {xs : List Value} (h : w.ownsRow base e size v n xs) : ∀ k, v.ownBlock = some k → base ≤ k := by
  intro k hk
  obtain ⟨_, ⟨rfl, h0⟩ | ⟨g, cap, cur, rfl, hb, _⟩⟩ := h
  · simp [Value.ownBlock] at hk
  · simp [Value.ownBlock] at hk; omega
end Go.Proofs.Ytlgmjnnfndedbaa
namespace Go.Proofs.Ytlgmjnnfndedbaa
open Go.RowKit Go.Lib

def bs (l : List UInt8) : ByteArray := ⟨l.toArray⟩
end Go.Proofs.Ytlgmjnnfndedbaa
namespace Go.Proofs.Ytlgmjnnfndedbaa
open Go.RowKit Go.Lib
set_option maxRecDepth 100000
set_option linter.unusedVariables false

/-- A list of pairs of texts. -/
def IsA (w : World) (a : Option Addr) (len : Nat) (ls : List (List UInt8 × List UInt8)) : Prop :=
  ls.length = len ∧ (len = 0 ∨ ∃ b off, a = some ⟨b, off, none⟩ ∧ ∀ i x, ls[i]? = some x → w.cell? ⟨b, off + i * 2, none⟩ = some (.string (bs x.1)) ∧ w.cell? ⟨b, off + i * 2 + 1, none⟩ = some (.string (bs x.2)))
theorem IsA.below {w w' : World} {a : Option Addr} {len : Nat} {ls : List (List UInt8 × List UInt8)} (h : IsA w a len ls) (hb : Below w.heap.size w w') : IsA w' a len ls := by
  refine ⟨h.1, h.2.elim .inl fun ⟨b, off, e, hat⟩ => .inr ⟨b, off, e, fun i x hi => ?_⟩⟩
  obtain ⟨h1, h2⟩ := hat i x hi
  have hlt : b < w.heap.size := by
    rcases Nat.lt_or_ge b w.heap.size with h' | h'
    · exact h'
    · simp [World.cell?, Array.getElem?_eq_none h'] at h1
  exact ⟨(hb.cell (p := ⟨b, off + i * 2, none⟩) hlt).trans h1, (hb.cell (p := ⟨b, off + i * 2 + 1, none⟩) hlt).trans h2⟩
theorem IsA.take {w : World} {a : Option Addr} {len : Nat} {ls : List (List UInt8 × List UInt8)} (h : IsA w a len ls) (k : Nat) (hk : k ≤ len) : IsA w a k (ls.take k) := by
  refine ⟨by rw [List.length_take, h.1]; omega, ?_⟩
  rcases h.2 with h0 | ⟨b, off, e, hat⟩
  · exact .inl (by omega)
  · refine .inr ⟨b, off, e, fun i x hi => hat i x ?_⟩
    have hlt : i < (ls.take k).length := (List.getElem?_eq_some_iff.1 hi).1
    rw [List.length_take] at hlt
    rwa [List.getElem?_take_of_lt (by omega)] at hi
theorem bs_inj {x y : List UInt8} (h : (bs x).toList = (bs y).toList) : x = y := by
  rw [ByteArray.toList_eq, ByteArray.toList_eq] at h
  exact h
def pairL (ls : List (List UInt8 × List UInt8)) : List Value := ls.flatMap fun x => [Value.string (bs x.1), Value.string (bs x.2)]
theorem pairL_get : ∀ (ls : List (List UInt8 × List UInt8)) (i : Nat) (x : List UInt8 × List UInt8), ls[i]? = some x → (pairL ls)[i * 2]? = some (.string (bs x.1)) ∧ (pairL ls)[i * 2 + 1]? = some (.string (bs x.2))
  | [], i, x, h => by simp at h
  | y :: t, 0, x, h => by
    simp at h
    subst h
    exact ⟨rfl, rfl⟩
  | y :: t, i + 1, x, h => by
    have h1 := pairL_get t i x (by simpa using h)
    have e : pairL (y :: t) = Value.string (bs y.1) :: Value.string (bs y.2) :: pairL t := rfl
    rw [e, show (i + 1) * 2 = i * 2 + 2 by omega]
    exact ⟨by simpa using h1.1, by simpa using h1.2⟩
theorem pairL_append (a b : List (List UInt8 × List UInt8)) : pairL (a ++ b) = pairL a ++ pairL b := by simp [pairL]
theorem pairs_one (ls : List (List UInt8 × List UInt8)) : ∀ u ∈ pairL ls, u.oneCell' = true := by
  intro u hu
  simp only [pairL, List.mem_flatMap] at hu
  obtain ⟨b, _, hb⟩ := hu
  simp at hb
  rcases hb with rfl | rfl <;> rfl
end Go.Proofs.Ytlgmjnnfndedbaa
namespace Go.Proofs.Ytlgmjnnfndedbaa
open Go.RowKit Go.Lib
set_option maxRecDepth 100000
set_option linter.unusedVariables false

theorem info_attr : (Try.prog.info? 91).map (fun i => (i.zero, i.size, i.bytes)) = some (some (.agg #[.string ⟨#[]⟩, .string ⟨#[]⟩]), 2, 32) := by kernel_rfl
theorem own_isT' {w : World} {base : Nat} {v : Value} {ls : List (List UInt8 × List UInt8)} (h : w.ownsRow base 91 2 v ls.length (pairL ls)) :
    ∃ a cap, v = .slice a ls.length cap ∧ IsA w a ls.length ls ∧ ls.length ≤ cap ∧ cap ≤ maxLen ∧ (∀ x, a = some x → base ≤ x.block) ∧ (a = none → cap = 0) := by
  obtain ⟨_, ⟨rfl, h0⟩ | ⟨g, cap, cur, rfl, hb, hg, hn, hc, hcs, ht⟩⟩ := h
  · exact ⟨none, 0, by rw [h0], ⟨rfl, .inl h0⟩, by omega, by unfold maxLen; omega, (fun x e => by cases e), fun _ => rfl⟩
  · refine ⟨_, cap, rfl, ⟨rfl, .inr ⟨g, 0, rfl, fun i x hi => ?_⟩⟩, hn, hc, (fun x e => by cases e; exact hb), (fun e => by cases e)⟩
    have hlt : i < ls.length := (List.getElem?_eq_some_iff.1 hi).1
    obtain ⟨h1, h2⟩ := pairL_get ls i x hi
    rw [← ht, List.getElem?_take_of_lt (by omega)] at h1 h2
    simp only [World.cell?, Nat.zero_add, hg]
    exact ⟨by simpa using h1, by simpa using h2⟩
/-- The block that a list of attributes lies in is one of attributes. -/
def TypB (w : World) (a : Option Addr) : Prop := ∀ x, a = some x → ∃ cs fr, w.heap[x.block]? = some (.cells cs 91 fr)
theorem own_typ {w : World} {base m n cp : Nat} {ad : Option Addr} {xs : List Value} (h : w.ownsRow base 91 2 (.slice ad n cp) m xs) : TypB w ad := by
  obtain ⟨_, ⟨e, _⟩ | ⟨g, cap, cur, e, _, hg, _⟩⟩ := h
  · cases e
    exact fun x hx => by cases hx
  · cases e
    exact fun x hx => by cases hx; exact ⟨cur, (0, 0), hg⟩
theorem TypB.heap {w w' : World} {a : Option Addr} (h : TypB w a) (hb : ∀ x, a = some x → w'.heap[x.block]? = w.heap[x.block]?) : TypB w' a := fun x hx => by
  rw [hb x hx]
  exact h x hx
theorem TypB.lt {w : World} {a : Option Addr} (h : TypB w a) (x : Addr) (hx : a = some x) : x.block < w.heap.size := by
  obtain ⟨cs, fr, hc⟩ := h x hx
  rcases Nat.lt_or_ge x.block w.heap.size with h1 | h1
  · exact h1
  · rw [Array.getElem?_eq_none h1] at hc; cases hc
theorem TypB.below {w w' : World} {a : Option Addr} (h : TypB w a) (hb : Below w.heap.size w w') : TypB w' a := h.heap fun x hx => hb.block _ (h.lt x hx)
/-- A block of another type is not theirs. -/
theorem TypB.ne {w : World} {a : Option Addr} {g : Nat} {cs : Array Value} {T : TypeId} {fr : Nat × Nat} (h : TypB w a) (hg : w.heap[g]? = some (.cells cs T fr)) (hT : T ≠ 91) (x : Addr) (hx : a = some x) : x.block ≠ g := by
  obtain ⟨cs', fr', hc⟩ := h x hx
  intro e
  rw [e, hg] at hc
  cases hc
  exact hT rfl
theorem step_T1 {w : World} {ops : Array Oper} {o : Oper} {a : Act} {K : Act → World → Prop} {Q : Exit → Act → World → Prop} {E : Prop} (hgd : o.guard = none) (s x : Operand)
    (ho : o.op = .call { callee := .builtin .append, args := #[s, x], argTypes := #[29, 29] })
    (base : Nat) (v : Value) (acc : List (List UInt8 × List UInt8)) (hs : a.eval s = v) (hown : w.ownsRow base 91 2 v acc.length (pairL acc))
    (ad : Addr) (c : Nat) (l : List UInt8 × List UInt8) (hx : a.eval x = .slice (some ad) 1 c) (hnew : w.cell? (ad.add 0) = some (.string (bs l.1))) (hnew2 : w.cell? (ad.add 1) = some (.string (bs l.2)))
    (hlen : acc.length + 1 ≤ 4294967296) (hbase : base ≤ w.heap.size)
    (h : ∀ v' w', w'.ownsRow base 91 2 v' (acc ++ [l]).length (pairL (acc ++ [l])) → w.grownBy w' v.ownBlock → K (a.put o.dst v') w') :
    if Region.wanted o (yielded ops a.tmps) = true then Oper.wp Try.prog o a w K Q else E := by
  have hw : Region.wanted o (yielded ops a.tmps) = true := by simp [Region.wanted, hgd]
  rw [if_pos hw]
  obtain ⟨i0, hi, hz0, hz1, hz2⟩ := info_parts info_attr
  refine wp_append_own w s x 29 ho base 91 i0 (.agg #[.string ⟨#[]⟩, .string ⟨#[]⟩]) 2 32 Try.underlying29 hi hz0 hz1 hz2 rfl (by decide) v acc.length (pairL acc) hs hown ad 1 c (pairL [l]) hx rfl ?_ (pairs_one [l]) (by unfold maxLen; omega) (by omega) hbase ?_
  · intro j u hj
    match j, hj with
    | 0, hj =>
      simp [pairL] at hj
      subst hj
      exact hnew
    | 1, hj =>
      simp [pairL] at hj
      subst hj
      exact hnew2
    | j + 2, hj => simp [pairL] at hj
  · intro v' w' h1 h2 _
    refine h v' w' ?_ h2
    rw [List.length_append, pairL_append]
    exact h1
end Go.Proofs.Ytlgmjnnfndedbaa
