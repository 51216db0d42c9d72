/- Laws: append of texts that came in to a row of the call's own. -/
import Derived.Test.YtolbohmalgklmaaOpenBe
import Derived.Laws.AppendOwnNone
namespace Go.Proofs.Ytolbohmalgklmaa
open Go.RowKit Go.Lib
set_option maxRecDepth 100000
set_option linter.unusedVariables false
/-- 'append(own, x...)', own the call's own row of texts, x whatever came in. -/
theorem append_texts {w : World} {ops : Array Oper} {rest : List Oper} {o : Oper} {a : Act} {Q : Exit → Act → World → Prop} (hgd : o.guard = none) (s x : Operand)
    (ho : o.op = .call { callee := .builtin .append, args := #[s, x], argTypes := #[23, 23] })
    (base : Nat) (v : Value) (acc : List (List UInt8)) (hs : a.eval s = v) (hown : w.ownsRow base 9 1 v acc.length (strsL acc))
    (ad : Option Addr) (m c : Nat) (new : List (List UInt8)) (hx : a.eval x = .slice ad m c) (hS : IsS w ad m new) (hn : ad = none → c = 0) (hm0 : m ≤ c)
    (hlen : acc.length + m ≤ 8589934592) (hbase : base ≤ w.heap.size)
    (h : ∀ v' w', w'.ownsRow base 9 1 v' (acc ++ new).length (strsL (acc ++ new)) → w.grownBy w' v.ownBlock → wpList Try.prog ops Q rest (a.put o.dst v') w') : wpList Try.prog ops Q (o :: rest) a w := by
  obtain ⟨i0, hi, hz0, hz1, hz2⟩ := info_parts info_str
  cases ad with
  | none =>
    have hc := hn rfl
    subst hc
    obtain rfl : m = 0 := by omega
    have hnew : new = [] := List.length_eq_zero_iff.1 hS.1
    subst hnew
    refine wpList_append_own_none hgd s x 23 ho base 9 i0 1 Try.underlying23 hi v acc.length (strsL acc) hs hown hx (h v w ?_ (World.grownBy.refl _ _))
    rw [List.append_nil]
    exact hown
  | some ad =>
    refine wpList_append_own w hgd s x 23 ho base 9 i0 (.string ⟨#[]⟩) 1 16 Try.underlying23 hi hz0 hz1 hz2 rfl (by decide) v acc.length (strsL acc) hs hown ad m c (strsL new) hx (by rw [strsL_len, hS.1]; omega) ?_ ?_ (by unfold maxLen; omega) (by omega) hbase ?_
    · intro j u hj
      rw [strsL_get, Option.map_eq_some_iff] at hj
      obtain ⟨l, hl, rfl⟩ := hj
      obtain ⟨hll, h0 | ⟨b', off', e, hat⟩⟩ := hS
      · have := (List.getElem?_eq_some_iff.1 hl).1
        omega
      · cases e
        rw [addr_add]
        exact hat j l hl
    · intro u hu
      simp [strsL] at hu
      obtain ⟨l, _, rfl⟩ := hu
      rfl
    · intro v' w' h1 h2 _
      refine h v' w' ?_ h2
      rw [List.length_append, strsL_append, hS.1]
      exact h1
end Go.Proofs.Ytolbohmalgklmaa
