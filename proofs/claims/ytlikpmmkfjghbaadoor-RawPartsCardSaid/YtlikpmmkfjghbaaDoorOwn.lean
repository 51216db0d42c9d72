/- Laws on slices of bytes that the call itself made: appending, reading them as a text. -/
import Derived.Test.YtlikpmmkfjghbaaDoorBase
namespace Go.Proofs.YtlikpmmkfjghbaaDoor
open Go.RowKit Go.Lib
set_option maxRecDepth 100000
set_option linter.unusedVariables false

theorem info_u8 : (Tryd.prog.info? 5).map (fun i => (i.zero, i.size, i.bytes)) = some (some (.int .u8 0), 1, 1) := by kernel_rfl

theorem byteCells_get (l : List UInt8) (j : Nat) : (byteCells l)[j]? = (l[j]?).map fun b => Value.int .u8 (b.toNat : Int) := by
  simp [byteCells]
theorem byteCells_len (l : List UInt8) : (byteCells l).length = l.length := byteCells_length l

/-- 'append(out, ..)' of bytes, out the call's own. -/
theorem append_bytes {w : World} {ops : Array Oper} {rest : List Oper} {o : Oper} {a : Act} {Q : Exit → Act → World → Prop} (hgd : o.guard = none) (s x : Operand)
    (ho : o.op = .call { callee := .builtin .append, args := #[s, x], argTypes := #[31, 31] })
    (base : Nat) (v : Value) (acc : List UInt8) (hs : a.eval s = v) (hown : w.ownsRow base 5 1 v acc.length (byteCells acc))
    (ad : Addr) (m c : Nat) (new : List UInt8) (hx : a.eval x = .slice (some ad) m c) (hm : new.length = m) (hnew : ∀ j, j < new.length → w.cell? (ad.add j) = some (.int .u8 (U8.B new j)))
    (hlen : acc.length + m ≤ 140737488355328) (hbase : base ≤ w.heap.size)
    (h : ∀ v' w', w'.ownsRow base 5 1 v' (acc ++ new).length (byteCells (acc ++ new)) → w.grownBy w' v.ownBlock → wpList Tryd.prog ops Q rest (a.put o.dst v') w') : wpList Tryd.prog ops Q (o :: rest) a w := by
  obtain ⟨i0, hi, hz0, hz1, hz2⟩ := info_parts info_u8
  refine wpList_append_own w hgd s x 31 ho base 5 i0 (.int .u8 0) 1 1 Tryd.underlying31 hi hz0 hz1 hz2 rfl (by decide) v acc.length (byteCells acc) hs hown ad m c (byteCells new) hx (by rw [byteCells_len]; omega) ?_ ?_ (by unfold maxLen; omega) (by omega) hbase ?_
  · intro j u hj
    rw [byteCells_get] at hj
    by_cases hlt : j < new.length
    · rw [hnew j hlt, ← hj, List.getElem?_eq_getElem hlt, U8.B_eq (List.getElem?_eq_getElem hlt)]
      rfl
    · rw [List.getElem?_eq_none (by omega)] at hj
      cases hj
  · intro u hu
    simp only [byteCells, List.mem_map] at hu
    obtain ⟨b, _, rfl⟩ := hu
    rfl
  · intro v' w' h1 h2 _
    refine h v' w' ?_ h2
    rw [List.length_append, hm, byteCells_append]
    exact h1

/-- What is owned is a slice of bytes. -/
theorem own_isB {w : World} {base : Nat} {v : Value} {acc : List UInt8} (h : w.ownsRow base 5 1 v acc.length (byteCells acc)) :
    ∃ a cap, v = .slice a acc.length cap ∧ IsB w a acc.length acc ∧ acc.length ≤ cap ∧ cap ≤ maxLen := by
  obtain ⟨_, ⟨rfl, h0⟩ | ⟨g, cap, cur, rfl, hb, hg, hn, hc, hcs, ht⟩⟩ := h
  · exact ⟨none, 0, by rw [h0], ⟨rfl, .inl h0⟩, by omega, by unfold maxLen; omega⟩
  · refine ⟨_, cap, rfl, ⟨rfl, .inr ⟨g, 0, rfl, fun i hi => ?_⟩⟩, hn, hc⟩
    have h1 : (byteCells acc)[i]? = some (.int .u8 (U8.B acc i)) := by
      rw [byteCells_get, List.getElem?_eq_getElem hi, U8.B_eq (List.getElem?_eq_getElem hi)]; rfl
    rw [← ht, Nat.mul_one, List.getElem?_take_of_lt hi] at h1
    simp only [World.cell?, Nat.zero_add, hg]
    simpa using h1
/-- 'string(out)'. -/
theorem conv_own {w : World} {base : Nat} {v : Value} {acc : List UInt8} (h : w.ownsRow base 5 1 v acc.length (byteCells acc)) :
    (convert 31 9 v).run Tryd.prog w = .ok (.string ⟨acc.toArray⟩) w := by
  obtain ⟨a, cap, rfl, hB, _⟩ := own_isB h
  exact conv_bytes hB cap
theorem IsB.below {w w' : World} {a : Option Addr} {len : Nat} {l : List UInt8} (h : IsB w a len l) (hb : Below w.heap.size w w') : IsB w' a len l := by
  refine ⟨h.1, h.2.elim .inl fun ⟨b, off, e, hat⟩ => ?_⟩
  by_cases h0 : l = []
  · subst h0; exact .inl h.1.symm
  · have hlt : b < w.heap.size := by
      have := hat 0 (by cases l with
        | nil => exact absurd rfl h0
        | cons a r => simp)
      rcases Nat.lt_or_ge b w.heap.size with h' | h'
      · exact h'
      · simp [World.cell?, Array.getElem?_eq_none h'] at this
    exact .inr ⟨b, off, e, fun i hi => (hb.cell (p := ⟨b, off + i, none⟩) hlt).trans (hat i hi)⟩
theorem own_below {w w' : World} {base : Nat} {e : TypeId} {size : Nat} {v : Value} {n : Nat} {xs : List Value} (h : w.ownsRow base e size v n xs) (hb : Below w.heap.size w w') : w'.ownsRow base e size v n xs :=
  h.kept (row := none) ⟨hb.os, hb.tape, hb.output, hb.size, fun k hk _ => hb.block k hk⟩ (Classical.em _)
theorem own_ge {w : World} {base : Nat} {e : TypeId} {size : Nat} {v : Value} {n : Nat} {xs : List Value} (h : w.ownsRow base e size v n xs) : ∀ k, v.ownBlock = some k → base ≤ k := by
  intro k hk
  obtain ⟨_, ⟨rfl, h0⟩ | ⟨g, cap, cur, rfl, hb, _⟩⟩ := h
  · simp [Value.ownBlock] at hk
  · simp [Value.ownBlock] at hk; omega
theorem bytesAt_below {w w' : World} {B b off : Nat} {l : List UInt8} (h : BytesAt w b off l) (hb : Below B w w') (hB : b < B) : BytesAt w' b off l :=
  h.mono fun o => hb.cell (p := ⟨b, o, none⟩) hB
theorem new_bytes (w : World) (new : List UInt8) (C : Array Value) (fr : Nat × Nat) (hC : C = (byteCells new).toArray) : ∀ j, j < new.length → (w.alloc (.cells C 5 fr)).cell? ((⟨w.heap.size, 0, none⟩ : Addr).add j) = some (.int .u8 (U8.B new j)) := by
  intro j hj
  subst hC
  rw [addr_add, Nat.zero_add, World.cell?_alloc_mark, List.getElem?_toArray, byteCells_get, List.getElem?_eq_getElem hj, U8.B_eq (List.getElem?_eq_getElem hj)]
  rfl
/-- The slice that '[]byte(s)' makes. -/
theorem isB_made (w : World) (s : ByteArray) (c : Nat) (fr : Nat × Nat) : IsB (w.drew.alloc (.cells (bytesRow s c) 5 fr)) (some ⟨w.heap.size, 0, none⟩) s.size s.data.toList := by
  refine ⟨size_list s, .inr ⟨w.heap.size, 0, rfl, fun i hi => ?_⟩⟩
  have hsz : w.drew.heap.size = w.heap.size := rfl
  rw [Nat.zero_add, ← hsz, World.cell?_alloc_mark]
  have hi' : i < s.data.size := by simpa using hi
  unfold bytesRow
  rw [Array.getElem?_append_left (by simpa using hi')]
  simp only [Array.getElem?_map, Array.getElem?_eq_getElem hi', Option.map_some]
  rw [U8.B_eq (c := s.data[i]) (by rw [Array.getElem?_toList, Array.getElem?_eq_getElem hi'])]
end Go.Proofs.YtlikpmmkfjghbaaDoor
