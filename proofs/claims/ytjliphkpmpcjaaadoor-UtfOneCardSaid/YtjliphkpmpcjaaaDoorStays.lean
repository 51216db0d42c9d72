/- Laws: appending to a row that is full, behind a conversion; a text's bytes appended. -/
import Derived.Test.YtjliphkpmpcjaaaDoorBytes
import Derived.Lib.AppendStr
import Derived.Lib.SlBytesConst
import Derived.ArgAppend
namespace Go.Proofs.YtjliphkpmpcjaaaDoor
open Go.ChangeShapes Go.WideShapes Go.ChangeAt Go.RowKit Go.Lib
set_option linter.unusedVariables false

theorem append_full {w : World} {ops : Array Oper} {rest : List Oper} {o : Oper} {a : Act} {Q : Exit → Act → World → Prop} (hgd : o.guard = none) (s x : Operand)
    (ho : o.op = .call { callee := .builtin .append, args := #[s, x], argTypes := #[22, 22] })
    (blk n : Nat) (olds : List UInt8) (hs : a.eval s = .slice (some ⟨blk, 0, none⟩) n n) (hol : olds.length = n) (hat : BytesAt w blk 0 olds)
    (ad : Option Addr) (m c : Nat) (new : List UInt8) (hx : a.eval x = .slice ad m c) (hB : IsB w ad m new) (hn : ad = none → c = 0) (hlen : n + m ≤ 4294967296)
    (h : ∀ a' cap' w', IsB w' a' (n + m) (olds ++ new) → n + m ≤ cap' → cap' ≤ maxLen → Below w.heap.size w w' → wpList Tryd.prog ops Q rest (a.put o.dst (.slice a' (n + m) cap')) w') : wpList Tryd.prog ops Q (o :: rest) a w := by
  obtain ⟨i0, hi, hz0, hz1, hz2⟩ := info_parts info_u8
  have hcellO : ∀ j u, (byteCells olds)[j]? = some u → w.cell? ⟨blk, 0 + j, none⟩ = some u := by
    intro j u hj
    rw [byteCells_get] at hj
    by_cases hlt : j < olds.length
    · rw [hat j hlt, ← hj, List.getElem?_eq_getElem hlt, U8.B_eq (List.getElem?_eq_getElem hlt)]; rfl
    · rw [List.getElem?_eq_none (by omega)] at hj; cases hj
  have hnil : m = 0 → IsB w (some ⟨blk, 0, none⟩) (n + m) (olds ++ new) := by
    intro h0
    have : new = [] := List.length_eq_zero_iff.1 (by rw [hB.1, h0])
    subst this
    rw [List.append_nil, h0, Nat.add_zero]
    exact ⟨hol, .inr ⟨blk, 0, rfl, hat⟩⟩
  cases ad with
  | none =>
    have hc := hn rfl
    subst hc
    have hm : m = 0 := hB.2.elim id fun ⟨b, off, e, _⟩ => by cases e
    have hI := hnil hm
    subst hm
    have hrun : (Builtin.append_ #[22, 22] o.type #[.slice (some ⟨blk, 0, none⟩) n n, .slice none 0 0]).run Tryd.prog w = .ok (.slice (some ⟨blk, 0, none⟩) n n) w := by
      simp [Builtin.append_, run_underlying Tryd.underlying22, sizeOf, typeInfo, hi, Builtin.lenOf, Builtin.firstCells, storeCells]
    refine wpList_plain hgd fun K hK => ?_
    unfold Oper.wp
    simp [execOp, ho, resolve, invoke, builtin, hs, hx, hrun, Result.andThen]
    exact hK _ _ (h _ n w hI (by omega) (by unfold maxLen; omega) (Below.refl _ _))
  | some ad =>
    have hnews : ∀ j u, (byteCells new)[j]? = some u → w.cell? (ad.add j) = some u := by
      intro j u hj
      rw [byteCells_get] at hj
      by_cases hlt : j < new.length
      · rcases hB.2 with h0 | ⟨b, off, e, hat2⟩
        · have := hB.1; omega
        · obtain rfl := Option.some.inj e
          rw [addr_add, hat2 j hlt, ← hj, List.getElem?_eq_getElem hlt, U8.B_eq (List.getElem?_eq_getElem hlt)]; rfl
      · rw [List.getElem?_eq_none (by omega)] at hj; cases hj
    have hone : ∀ u ∈ byteCells new, u.oneCell' = true := by
      intro u hu
      simp only [byteCells, List.mem_map] at hu
      obtain ⟨b, _, rfl⟩ := hu
      rfl
    refine wpList_append_arg w hgd s x 22 ho 5 i0 (.int .u8 0) 1 1 Tryd.underlying22 hi hz0 hz1 hz2 rfl (by decide) blk 0 n n (byteCells olds) hs (by rw [byteCells_len]; omega) hcellO ad m c (byteCells new) hx (by rw [byteCells_len, hB.1]; omega) hnews hone ?_ (by unfold maxLen; omega) (by omega) ?_ ?_
    · intro hr j hj
      rw [byteCells_len, hB.1] at hj
      omega
    · intro hr
      have hm : m = 0 := by omega
      have hI := hnil hm
      have hnew : new = [] := List.length_eq_zero_iff.1 (by rw [hB.1, hm])
      subst hnew
      exact h _ n _ hI hr (by unfold maxLen; omega) (Below.refl _ _)
    · intro hg v' w' h1 h2
      have h1' : w'.ownsRow w.heap.size 5 1 v' (olds ++ new).length (byteCells (olds ++ new)) := by
        rw [List.length_append, hol, hB.1, byteCells_append]; exact h1
      obtain ⟨a', cap', hv, hI, q1, q2⟩ := own_isB h1'
      have hl : (olds ++ new).length = n + m := by rw [List.length_append, hol, hB.1]
      rw [hl] at hv hI q1
      rw [hv]
      exact h a' cap' w' hI q1 q2 ((Below.refl _ _).grown h2 (Nat.le_refl _) (fun k hk => by cases hk))

/-- 'append(both, s...)', s a text. -/
theorem append_text {w : World} {ops : Array Oper} {rest : List Oper} {o : Oper} {a : Act} {Q : Exit → Act → World → Prop} (hgd : o.guard = none) (sl x : Operand)
    (ho : o.op = .call { callee := .builtin .append, args := #[sl, x], argTypes := #[22, 9] })
    (base : Nat) (v : Value) (acc : List UInt8) (hs : a.eval sl = v) (hown : w.ownsRow base 5 1 v acc.length (byteCells acc)) (s : ByteArray) (hx : a.eval x = .string s)
    (hlen : acc.length + s.size ≤ 4294967296) (hbase : base ≤ w.heap.size)
    (h : ∀ v' w', w'.ownsRow base 5 1 v' (acc ++ s.data.toList).length (byteCells (acc ++ s.data.toList)) → w.grownBy w' v.ownBlock → wpList Tryd.prog ops Q rest (a.put o.dst v') w') : wpList Tryd.prog ops Q (o :: rest) a w := by
  obtain ⟨i0, hi, hz0, hz1, hz2⟩ := info_parts info_u8
  refine wpList_append_own_string w hgd sl x 22 9 ho base 5 i0 Tryd.underlying22 Tryd.underlying9 hi hz0 hz1 hz2 v acc.length (byteCells acc) hs hown s hx (by unfold maxLen; omega) (by omega) hbase ?_
  intro v' w' h1 h2 _
  refine h v' w' ?_ h2
  rw [List.length_append, size_list, byteCells_append]
  exact h1

/-! ### what the statement says, of lists -/
theorem right_one (c : UInt8) (h0 : c.toNat ≠ 0) (h : c.toNat < 128) : U8.right [c] = true := by
  rw [U8.right_step _ (by simp)]
  have e : U8.B [c] 0 = c.toNat := rfl
  have f : U8.front [c] = (1, true) := by unfold U8.front U8.frontN; rw [e, if_pos h]
  rw [f, e]
  simp [h0, U8.right_nil]
theorem text_cons (c : UInt8) (l : List UInt8) (h0 : c.toNat ≠ 0) (h : c.toNat < 128) : U8.text (c :: l) = c :: U8.plain l := by
  have hne : c ≠ 239 := fun e => by subst e; exact absurd h (by decide)
  have ht : trimPrefix (c :: l) [239, 187, 191] = c :: l := by
    rw [trimPrefix, if_neg]
    unfold hasPrefix
    simp [List.isPrefixOf, Ne.symm hne]
  unfold U8.text
  rw [ht]
  exact U8.plain_append [c] l (right_one c h0 h)
end Go.Proofs.YtjliphkpmpcjaaaDoor
