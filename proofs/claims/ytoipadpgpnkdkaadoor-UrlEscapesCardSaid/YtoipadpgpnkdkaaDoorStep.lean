/- The law for 'append(out, ..)' of bytes, out the call's own, as one step of a region that draws its order. -/
import Derived.Test.YtoipadpgpnkdkaaDoorOwn
import Derived.Deep.RegionLaw
namespace Go.Proofs.YtoipadpgpnkdkaaDoor
open Go.RowKit Go.Lib
set_option maxRecDepth 100000
set_option linter.unusedVariables false

theorem step_bytes {w : World} {ops : Array Oper} {o : Oper} {a : Act} {K : Act → World → Prop} {Q : Exit → Act → World → Prop} {E : Prop} (hgd : o.guard = none) (s x : Operand)
    (ho : o.op = .call { callee := .builtin .append, args := #[s, x], argTypes := #[31, 31] })
    (base : Nat) (v : Value) (acc : List UInt8) (hs : a.eval s = v) (hown : w.ownsRow base 5 1 v acc.length (byteCells acc))
    (ad : Addr) (m c : Nat) (new : List UInt8) (hx : a.eval x = .slice (some ad) m c) (hm : new.length = m) (hnew : ∀ j, j < new.length → w.cell? (ad.add j) = some (.int .u8 (U8.B new j)))
    (hlen : acc.length + m ≤ 140737488355328) (hbase : base ≤ w.heap.size)
    (h : ∀ v' w', w'.ownsRow base 5 1 v' (acc ++ new).length (byteCells (acc ++ new)) → w.grownBy w' v.ownBlock → K (a.put o.dst v') w') :
    if Region.wanted o (yielded ops a.tmps) = true then Oper.wp Tryd.prog o a w K Q else E := by
  have hw : Region.wanted o (yielded ops a.tmps) = true := by simp [Region.wanted, hgd]
  rw [if_pos hw]
  obtain ⟨i0, hi, hz0, hz1, hz2⟩ := info_parts info_u8
  refine wp_append_own w s x 31 ho base 5 i0 (.int .u8 0) 1 1 Tryd.underlying31 hi hz0 hz1 hz2 rfl (by decide) v acc.length (byteCells acc) hs hown ad m c (byteCells new) hx (by rw [byteCells_len]; omega) ?_ ?_ (by unfold maxLen; omega) (by omega) hbase ?_
  · intro j u hj
    rw [byteCells_get] at hj
    by_cases hlt : j < new.length
    · rw [hnew j hlt, ← hj, List.getElem?_eq_getElem hlt, U8.B_eq (List.getElem?_eq_getElem hlt)]
      rfl
    · rw [List.getElem?_eq_none (by omega)] at hj
      cases hj
  · intro u hu
    simp only [byteCells, List.mem_map] at hu
    obtain ⟨b, _, rfl⟩ := hu
    rfl
  · intro v' w' h1 h2 _
    refine h v' w' ?_ h2
    rw [List.length_append, byteCells_append, hm]
    exact h1
end Go.Proofs.YtoipadpgpnkdkaaDoor
