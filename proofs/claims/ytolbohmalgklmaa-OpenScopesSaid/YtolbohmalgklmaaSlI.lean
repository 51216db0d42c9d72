/- Laws on lists of texts: such as the call itself made, and such as came in. -/
import Derived.Test.YtolbohmalgklmaaGnd
import Derived.Laws.AppendOwn
import Derived.OwnWalk
namespace Go.Proofs.Ytolbohmalgklmaa
open Go.RowKit Go.Lib
set_option maxRecDepth 100000
set_option linter.unusedVariables false

def strsL (ls : List (List UInt8)) : List Value := ls.map fun l => Value.string ⟨l.toArray⟩
theorem strsL_len (ls : List (List UInt8)) : (strsL ls).length = ls.length := by simp [strsL]
theorem strsL_append (a b : List (List UInt8)) : strsL (a ++ b) = strsL a ++ strsL b := by simp [strsL]
theorem strsL_get (ls : List (List UInt8)) (j : Nat) : (strsL ls)[j]? = (ls[j]?).map fun l => Value.string ⟨l.toArray⟩ := by simp [strsL]

theorem info_str : (Try.prog.info? 9).map (fun i => (i.zero, i.size, i.bytes)) = some (some (.string ⟨#[]⟩), 1, 16) := by kernel_rfl

/-- 'append(out, line)', out the call's own, line just laid in a block of its own. -/
theorem append_str {w : World} {ops : Array Oper} {rest : List Oper} {o : Oper} {a : Act} {Q : Exit → Act → World → Prop} (hgd : o.guard = none) (s x : Operand)
    (ho : o.op = .call { callee := .builtin .append, args := #[s, x], argTypes := #[23, 23] })
    (base : Nat) (v : Value) (acc : List (List UInt8)) (hs : a.eval s = v) (hown : w.ownsRow base 9 1 v acc.length (strsL acc))
    (ad : Addr) (new : List UInt8) (hx : a.eval x = .slice (some ad) 1 1) (hnew : w.cell? ad = some (.string ⟨new.toArray⟩))
    (hlen : acc.length + 1 ≤ 8589934592) (hbase : base ≤ w.heap.size)
    (h : ∀ v' w', w'.ownsRow base 9 1 v' (acc ++ [new]).length (strsL (acc ++ [new])) → w.grownBy w' v.ownBlock → wpList Try.prog ops Q rest (a.put o.dst v') w') : wpList Try.prog ops Q (o :: rest) a w := by
  obtain ⟨i0, hi, hz0, hz1, hz2⟩ := info_parts info_str
  refine wpList_append_own w hgd s x 23 ho base 9 i0 (.string ⟨#[]⟩) 1 16 Try.underlying23 hi hz0 hz1 hz2 rfl (by decide) v acc.length (strsL acc) hs hown ad 1 1 (strsL [new]) hx rfl ?_ ?_ (by unfold maxLen; omega) (by omega) hbase ?_
  · intro j u hj
    match j, hj with
    | 0, hj =>
      simp [strsL] at hj
      subst hj
      have : ad.add 0 = ad := by obtain ⟨b, off, sp⟩ := ad; unfold Addr.add; cases sp <;> simp
      rw [this, hnew]
    | j + 1, hj => simp [strsL] at hj
  · intro u hu
    simp [strsL] at hu
    subst hu
    rfl
  · intro v' w' h1 h2 _
    refine h v' w' ?_ h2
    rw [List.length_append, strsL_append]
    exact h1

/-- A list of texts. -/
def IsS (w : World) (a : Option Addr) (len : Nat) (ls : List (List UInt8)) : Prop :=
  ls.length = len ∧ (len = 0 ∨ ∃ b off, a = some ⟨b, off, none⟩ ∧ ∀ i l, ls[i]? = some l → w.cell? ⟨b, off + i, none⟩ = some (.string ⟨l.toArray⟩))
theorem own_isS {w : World} {base : Nat} {v : Value} {ls : List (List UInt8)} (h : w.ownsRow base 9 1 v ls.length (strsL ls)) :
    ∃ a cap, v = .slice a ls.length cap ∧ IsS w a ls.length ls ∧ ls.length ≤ cap ∧ cap ≤ maxLen := by
  obtain ⟨_, ⟨rfl, h0⟩ | ⟨g, cap, cur, rfl, hb, hg, hn, hc, hcs, ht⟩⟩ := h
  · exact ⟨none, 0, by rw [h0], ⟨rfl, .inl h0⟩, by omega, by unfold maxLen; omega⟩
  · refine ⟨_, cap, rfl, ⟨rfl, .inr ⟨g, 0, rfl, fun i l hi => ?_⟩⟩, hn, hc⟩
    have hlt : i < ls.length := (List.getElem?_eq_some_iff.1 hi).1
    have h1 : (strsL ls)[i]? = some (.string ⟨l.toArray⟩) := by rw [strsL_get, hi]; rfl
    rw [← ht, Nat.mul_one, List.getElem?_take_of_lt hlt] at h1
    simp only [World.cell?, Nat.zero_add, hg]
    simpa using h1
theorem IsS.below {w w' : World} {a : Option Addr} {len : Nat} {ls : List (List UInt8)} (h : IsS w a len ls) (hb : Below w.heap.size w w') : IsS w' a len ls := by
  refine ⟨h.1, h.2.elim .inl fun ⟨b, off, e, hat⟩ => .inr ⟨b, off, e, fun i l hi => ?_⟩⟩
  have h1 := hat i l hi
  have hlt : b < w.heap.size := by
    rcases Nat.lt_or_ge b w.heap.size with h' | h'
    · exact h'
    · simp [World.cell?, Array.getElem?_eq_none h'] at h1
  exact (hb.cell (p := ⟨b, off + i, none⟩) hlt).trans h1
theorem IsS.take {w : World} {a : Option Addr} {len : Nat} {ls : List (List UInt8)} (h : IsS w a len ls) (k : Nat) (hk : k ≤ len) : IsS w a k (ls.take k) := by
  refine ⟨by rw [List.length_take, h.1]; omega, ?_⟩
  rcases h.2 with h0 | ⟨b, off, e, hat⟩
  · exact .inl (by omega)
  · refine .inr ⟨b, off, e, fun i x hi => hat i x ?_⟩
    have hlt : i < (ls.take k).length := (List.getElem?_eq_some_iff.1 hi).1
    rw [List.length_take] at hlt
    rwa [List.getElem?_take_of_lt (by omega)] at hi
end Go.Proofs.Ytolbohmalgklmaa
