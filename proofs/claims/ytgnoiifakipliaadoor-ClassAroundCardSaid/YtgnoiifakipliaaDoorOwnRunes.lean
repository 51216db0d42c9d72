/- Laws on slices of characters' numbers that the call itself made: appending, reading them as a text. -/
import Derived.Test.YtgnoiifakipliaaDoorOwn
import Derived.Test.YtgnoiifakipliaaDoorPlain
import Derived.Test.YtgnoiifakipliaaDoorRefFoldC
import Derived.Laws.Cover4
namespace Go.Proofs.YtgnoiifakipliaaDoor
open Go.RowKit Go.Lib
set_option maxRecDepth 100000
set_option linter.unusedVariables false

theorem info_i32 : (Tryd.prog.info? 21).map (fun i => (i.zero, i.size, i.bytes)) = some (some (.int .i32 0), 1, 4) := by kernel_rfl
theorem runeRow_len (l : List Nat) : (runeRow l).length = l.length := by simp [runeRow]
theorem runeRow_append (a b : List Nat) : runeRow (a ++ b) = runeRow a ++ runeRow b := by simp [runeRow]
theorem runeRow_get (l : List Nat) (j : Nat) : (runeRow l)[j]? = (l[j]?).map fun (c : Nat) => Value.int .i32 (c : Int) := by simp [runeRow]

/-- 'append(out, ..)' of numbers, out the call's own. -/
theorem append_runes {w : World} {ops : Array Oper} {rest : List Oper} {o : Oper} {a : Act} {Q : Exit → Act → World → Prop} (hgd : o.guard = none) (s x : Operand)
    (ho : o.op = .call { callee := .builtin .append, args := #[s, x], argTypes := #[37, 37] })
    (base : Nat) (v : Value) (acc : List Nat) (hs : a.eval s = v) (hown : w.ownsRow base 21 1 v acc.length (runeRow acc))
    (ad : Addr) (m c : Nat) (new : List Nat) (hx : a.eval x = .slice (some ad) m c) (hm : new.length = m) (hnew : ∀ j (hj : j < new.length), w.cell? (ad.add j) = some (.int .i32 (new[j] : Nat)))
    (hlen : acc.length + m ≤ 35184372088832) (hbase : base ≤ w.heap.size)
    (h : ∀ v' w', w'.ownsRow base 21 1 v' (acc ++ new).length (runeRow (acc ++ new)) → w.grownBy w' v.ownBlock → wpList Tryd.prog ops Q rest (a.put o.dst v') w') : wpList Tryd.prog ops Q (o :: rest) a w := by
  obtain ⟨i0, hi, hz0, hz1, hz2⟩ := info_parts info_i32
  refine wpList_append_own w hgd s x 37 ho base 21 i0 (.int .i32 0) 1 4 Tryd.underlying37 hi hz0 hz1 hz2 rfl (by decide) v acc.length (runeRow acc) hs hown ad m c (runeRow new) hx (by rw [runeRow_len]; omega) ?_ ?_ (by unfold maxLen; omega) (by omega) hbase ?_
  · intro j u hj
    rw [runeRow_get] at hj
    by_cases hlt : j < new.length
    · rw [hnew j hlt, ← hj, List.getElem?_eq_getElem hlt]
      rfl
    · rw [List.getElem?_eq_none (by omega)] at hj
      cases hj
  · intro u hu
    simp only [runeRow, List.mem_map] at hu
    obtain ⟨b, _, rfl⟩ := hu
    rfl
  · intro v' w' h1 h2 _
    refine h v' w' ?_ h2
    rw [List.length_append, hm, runeRow_append]
    exact h1

/-- 'string(out)' of numbers. -/
theorem convR_own {w : World} {base : Nat} {v : Value} {acc : List Nat} (h : w.ownsRow base 21 1 v acc.length (runeRow acc)) (ok : ∀ c ∈ acc, OkC c) :
    (convert 37 9 v).run Tryd.prog w = .ok (.string ⟨(encs acc).toArray⟩) w := by
  obtain ⟨_, ⟨rfl, h0⟩ | ⟨g, cap, cur, rfl, hb, hg, hn, hc, hcs, ht⟩⟩ := h
  · obtain rfl : acc = [] := List.length_eq_zero_iff.1 h0
    exact run_convert_runes_nil w _ _ _ _ _ Tryd.underlying37 Tryd.underlying21 Tryd.underlying9
  · have hr := run_convert_runes (P := Tryd.prog) w 37 9 21 ⟨g, 0, none⟩ acc.length cap (acc.map fun (c : Nat) => (c : Int)) (by simp) Tryd.underlying37 Tryd.underlying21 Tryd.underlying9 (fun j hj => by
      have hj' : j < acc.length := by simpa using hj
      have h1 : (runeRow acc)[j]? = some (.int .i32 ((acc[j] : Nat) : Int)) := by rw [runeRow_get, List.getElem?_eq_getElem hj']; rfl
      rw [← ht, Nat.mul_one, List.getElem?_take_of_lt hj'] at h1
      rw [addr_add, Nat.zero_add]
      simp only [World.cell?, hg]
      simp [List.getD, List.getElem?_eq_getElem hj'] at h1 ⊢
      simpa using h1)
    rw [hr]
    rw [List.take_of_length_le (by simp)]
    have := runesBytes_encs acc ok
    congr 2
    apply ByteArray.ext
    apply Array.ext'
    rw [this]
end Go.Proofs.YtgnoiifakipliaaDoor
