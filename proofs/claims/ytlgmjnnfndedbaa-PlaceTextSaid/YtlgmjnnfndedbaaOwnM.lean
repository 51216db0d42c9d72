/- Laws: a row of bytes that the tree owns, of which nothing behind its elements is frozen: one made by append, or by '[]byte(s)'. -/
import Derived.Test.YtlgmjnnfndedbaaMarkM
import Derived.Lib.FrozenHead
namespace Go.Proofs.Ytlgmjnnfndedbaa
open Go.RowKit Go.Lib
set_option maxRecDepth 100000
set_option linter.unusedVariables false

/-- The slice v of the bytes l. -/
def OwnM (w : World) (base : Nat) (v : Value) (l : List UInt8) : Prop :=
  (v = .slice none 0 0 ∧ l = []) ∨
   ∃ g cap cur fz, v = .slice (some ⟨g, 0, none⟩) l.length cap ∧ base ≤ g ∧ w.heap[g]? = some (.cells cur 5 fz) ∧ (∀ j, l.length ≤ j → j < cap → fz.1 ≤ j → ¬ j < fz.2) ∧ l.length ≤ cap ∧ cap ≤ maxLen ∧ cur.size = cap ∧ cur.toList.take l.length = byteCells l
theorem OwnM.nil (w : World) (base : Nat) : OwnM w base (.slice none 0 0) [] := .inl ⟨rfl, rfl⟩
theorem OwnM.keep {w w' : World} {base : Nat} {v : Value} {l : List UInt8} (h : OwnM w base v l) (hk : ∀ g, v.ownBlock = some g → w'.heap[g]? = w.heap[g]?) : OwnM w' base v l := by
  rcases h with h | ⟨g, cap, cur, fz, rfl, hb, hg, rest⟩
  · exact .inl h
  · exact .inr ⟨g, cap, cur, fz, rfl, hb, (hk g rfl).trans hg, rest⟩
theorem OwnM.wide {w : World} {base base' : Nat} {v : Value} {l : List UInt8} (h : OwnM w base v l) (hb : base' ≤ base) : OwnM w base' v l := by
  rcases h with h | ⟨g, cap, cur, fz, e, hb2, rest⟩
  · exact .inl h
  · exact .inr ⟨g, cap, cur, fz, e, by omega, rest⟩
theorem OwnM.cells {w : World} {base : Nat} {v : Value} {l : List UInt8} (h : OwnM w base v l) {g : Nat} (hv : v.ownBlock = some g) : ∃ cs fr, w.heap[g]? = some (.cells cs 5 fr) := by
  rcases h with ⟨rfl, _⟩ | ⟨g', cap, cur, fz, rfl, hb, hg, rest⟩
  · cases hv
  · obtain rfl : g' = g := Option.some.inj hv
    exact ⟨cur, fz, hg⟩
theorem OwnM.lt {w : World} {base : Nat} {v : Value} {l : List UInt8} (h : OwnM w base v l) {g : Nat} (hv : v.ownBlock = some g) : base ≤ g ∧ g < w.heap.size := by
  rcases h with ⟨rfl, _⟩ | ⟨g', cap, cur, fz, rfl, hb, hg, rest⟩
  · cases hv
  · obtain rfl : g' = g := Option.some.inj hv
    exact ⟨hb, (Array.getElem?_eq_some_iff.1 hg).1⟩
theorem OwnM.one {w : World} {base : Nat} {v : Value} {l : List UInt8} (h : OwnM w base v l) : v.oneCell' = true := by
  rcases h with ⟨rfl, _⟩ | ⟨g', cap, cur, fz, rfl, _⟩ <;> rfl
theorem blk_neM {w : World} {a b : Nat} {cs ds : Array Value} {T : TypeId} {fr : Nat × Nat} (h : BlkW w a cs T) (g : w.heap[b]? = some (.cells ds 5 fr)) (hT : T ≠ 5) : a ≠ b := by
  intro e
  subst e
  unfold BlkW at h
  rw [h] at g
  injection g with g
  injection g with _ g2 _
  exact hT g2
theorem OwnM.isB {w : World} {base : Nat} {v : Value} {l : List UInt8} (h : OwnM w base v l) : ∃ a cap, v = .slice a l.length cap ∧ IsB w a l.length l := by
  rcases h with ⟨rfl, rfl⟩ | ⟨g, cap, cur, fz, rfl, hb, hg, hf, hn, hc, hcs, ht⟩
  · exact ⟨none, 0, rfl, rfl, .inl rfl⟩
  · refine ⟨_, cap, rfl, ⟨rfl, .inr ⟨g, 0, rfl, fun i hi => ?_⟩⟩⟩
    have h1 : (byteCells l)[i]? = some (.int .u8 (U8.B l i)) := by
      rw [byteCells_get, List.getElem?_eq_getElem hi, U8.B_eq (List.getElem?_eq_getElem hi)]; rfl
    rw [← ht, List.getElem?_take_of_lt hi] at h1
    simp only [World.cell?, Nat.zero_add, hg]
    simpa using h1
theorem OwnM.of_own {w : World} {base : Nat} {v : Value} {l : List UInt8} (h : w.ownsRow base 5 1 v l.length (byteCells l)) : OwnM w base v l := by
  obtain ⟨_, ⟨rfl, h0⟩ | ⟨g, cap, cur, rfl, hb, hg, hn, hc, hcs, ht⟩⟩ := h
  · exact .inl ⟨rfl, List.length_eq_zero_iff.1 h0⟩
  · exact .inr ⟨g, cap, cur, (0, 0), rfl, hb, hg, fun j _ _ _ h => Nat.not_lt_zero _ h, hn, hc, by rw [hcs, Nat.mul_one], by rw [Nat.mul_one] at ht; exact ht⟩
/-- What '[]byte(s)' makes. -/
theorem OwnM.made (w : World) (s : ByteArray) (c : Nat) (hc : s.size ≤ c) (hm : c ≤ maxLen) : OwnM (w.drew.alloc (.cells (bytesRow s c) 5 ((bytesRow s c).size, (bytesRow s c).size + 1))) w.heap.size (.slice (some ⟨w.heap.size, 0, none⟩) s.size c) s.data.toList := by
  have hsz : (bytesRow s c).size = c := by simp [bytesRow]; omega
  have hl := size_list s
  refine .inr ⟨w.heap.size, c, bytesRow s c, ((bytesRow s c).size, (bytesRow s c).size + 1), by rw [hl], Nat.le_refl _, ?_, fun j h1 h2 h3 => by simp only [hsz] at h3; omega, by rw [hl]; exact hc, hm, hsz, ?_⟩
  · exact heap_alloc_new w.drew _
  · unfold bytesRow byteCells
    rw [Array.toList_append, List.take_append_of_le_length (by simp)]
    simp
    rw [List.take_of_length_le]
    rw [List.length_map, hl]
    exact Nat.le_refl _
/-- 'run_storeCells_at' where none of the cells that are written is frozen. -/
theorem store_free (P : Program) (g o : Nat) (t : TypeId) (fz : Nat × Nat) : ∀ (vs : List Value) (i : Nat) (cur : Array Value) (w : World), w.heap[g]? = some (.cells cur t fz) → (∀ j, o + i ≤ j → j < o + i + vs.length → fz.1 ≤ j → ¬ j < fz.2) → o + i + vs.length ≤ cur.size → (∀ v ∈ vs, v.oneCell' = true) →
    (storeCells ⟨g, o, none⟩ vs i).run P w = .ok () (w.setRow g (cur.toList.take (o + i) ++ vs ++ cur.toList.drop (o + i + vs.length)).toArray)
  | [], i, cur, w, hg, _, _, _ => by
    simp only [storeCells, List.append_nil, List.length_nil, Nat.add_zero, List.take_append_drop, Array.toArray_toList]
    rw [setRow_self w g cur t fz hg]
    rfl
  | v :: rest, i, cur, w, hg, hfz, hl, h1 => by
    rw [List.length_cons] at hl hfz
    have hadd : (⟨g, o, none⟩ : Addr).add i = ⟨g, o + i, none⟩ := by unfold Addr.add; split <;> simp_all
    have hi : o + i < cur.size := by omega
    have hcell : w.cell? ⟨g, o + i, none⟩ = some cur[o + i] := by simp [World.cell?, hg, hi]
    have hfro : w.frozen? ⟨g, o + i, none⟩ = false := by
      have h0 := hfz (o + i) (Nat.le_refl _) (by omega)
      obtain ⟨lo, hi'⟩ := fz
      simp only [World.frozen?, hg, Bool.and_eq_false_iff, decide_eq_false_iff_not]
      by_cases h2 : lo ≤ o + i
      · exact .inr (h0 h2)
      · exact .inl h2
    have hst : (store ((⟨g, o, none⟩ : Addr).add i) v).run P w = .ok () (w.setRow g (cur.setIfInBounds (o + i) v)) := by
      rw [hadd, run_store P w _ v _ (h1 v (by simp)), hcell]
      simp [hfro, setCell_eq_setRow w g (o + i) cur t fz v hg]
    have ih := store_free P g o t fz rest (i + 1) (cur.setIfInBounds (o + i) v) (w.setRow g (cur.setIfInBounds (o + i) v)) (setRow_heap w g cur _ t _ hg) (fun j a1 a2 => hfz j (by omega) (by omega)) (by simp; omega) (fun x hx => h1 x (by simp [hx]))
    simp only [storeCells, Sem.run_bind, hst, Result.andThen_ok, ih, setRow_setRow]
    congr 3
    have e := list_seg_step cur.toList (o + i) v rest (by simp; omega)
    simpa [Array.toList_setIfInBounds, Nat.add_assoc] using e
/-- 'append(b, s...)', s a string. -/
theorem run_append_M (w : World) (base : Nat) (v : Value) (l : List UInt8) (hown : OwnM w base v l) (s : ByteArray) (ty : TypeId) (hlen : l.length + s.size ≤ 4294967296) (hbase : base ≤ w.heap.size) :
    ∃ v' w', (Builtin.append_ #[84, 9] ty #[v, .string s]).run Try.prog w = .ok v' w' ∧ OwnM w' base v' (l ++ s.data.toList) ∧ w.grownBy w' v.ownBlock ∧ (v'.ownBlock = v.ownBlock ∨ ∀ g, v'.ownBlock = some g → w.heap.size ≤ g) := by
  obtain ⟨i0, hi, hz0, hz1, hz2⟩ := info_parts info_u8
  have hsl := size_list s
  have hsc : strCells s = byteCells s.data.toList := by simp [strCells, byteCells]
  rcases hown with ⟨rfl, rfl⟩ | ⟨g, cap, cur, fz, rfl, hbg, hg, hf, hnc, hcm, hcs, htake⟩
  · obtain ⟨v', w', h1, h2, h3, h4⟩ := run_append_own_string (P := Try.prog) w w.heap.size 84 9 ty 5 i0 Try.underlying84 Try.underlying9 hi hz0 hz1 hz2 (.slice none 0 0) 0 [] (World.ownsRow_nil _ _ _ _) s (by unfold maxLen; omega) (by omega) (Nat.le_refl _)
    have hO : w'.ownsRow w.heap.size 5 1 v' s.data.toList.length (byteCells s.data.toList) := by
      rw [hsl, ← hsc]
      simpa using h2
    exact ⟨v', w', h1, (OwnM.of_own hO).wide hbase, h3, .inr (own_ge hO)⟩
  · have hholds : ∀ j u, (byteCells l)[j]? = some u → w.cell? ((⟨g, 0, none⟩ : Addr).add j) = some u := by
      intro j u hj
      have hlt : j < l.length := by
        have := (List.getElem?_eq_some_iff.1 hj).1
        rwa [byteCells_len] at this
      rw [addr_add, Nat.zero_add]
      simp only [World.cell?, hg]
      rw [← htake, List.getElem?_take_of_lt hlt] at hj
      simpa using hj
    by_cases hroom : l.length + s.size ≤ cap
    · have hf2 := run_firstCells_string (P := Try.prog) w 1 s
      have hst := store_free Try.prog g l.length 5 fz (strCells s) 0 cur w hg (fun j a1 a2 => hf j (by omega) (by rw [strCells_length] at a2; omega)) (by rw [strCells_length]; omega) (strCells_oneCell s)
      simp only [Nat.add_zero, strCells_length] at hst
      refine ⟨.slice (some ⟨g, 0, none⟩) (l.length + s.size) cap, w.setRow g (cur.toList.take l.length ++ strCells s ++ cur.toList.drop (l.length + s.size)).toArray, ?_, .inr ⟨g, cap, _, fz, ?_, hbg, setRow_heap w g cur _ _ _ hg, fun j a1 => hf j (by rw [List.length_append] at a1; omega), by rw [List.length_append, hsl]; exact hroom, hcm, ?_, ?_⟩, ⟨rfl, rfl, rfl, by simp, fun k _ hk => setRow_other w g k _ (fun e => hk (by simp [Value.ownBlock, e]))⟩, .inl rfl⟩
      · simp [Builtin.append_, run_underlying Try.underlying84, run_underlying Try.underlying9, sizeOf, typeInfo, hi, hz1, Builtin.lenOf, hroom, hf2, Addr.add_lit, hst]
      · rw [List.length_append, hsl]
      · simp only [List.size_toArray, List.length_append, List.length_take, List.length_drop, Array.length_toList, strCells_length]
        omega
      · rw [htake, hsc, ← byteCells_append, show (l ++ s.data.toList).length = (byteCells (l ++ s.data.toList)).length from (byteCells_len _).symm]
        exact List.take_left
    · have hr := run_append_grow_string (P := Try.prog) w 84 9 ty 5 i0 (.int .u8 0) Try.underlying84 Try.underlying9 hi hz0 ⟨g, 0, none⟩ l.length cap (byteCells l) (by rw [hz1, byteCells_len]; omega) hholds s (by omega) (by omega) (by rw [hz2]; exact growslice_fits (by omega) (by omega))
      have hge := grownCap_ge w (l.length + s.size) cap 5
      have hcm2 : grownCap w (l.length + s.size) cap 5 ≤ maxLen := grownCap_le_maxLen w (l.length + s.size) cap 5 (by unfold maxLen; omega)
      refine ⟨_, _, hr, .inr ⟨w.heap.size, _, _, (0, 0), by rw [List.length_append, hsl], hbase, heap_alloc_new w.drew _, fun j _ _ _ h => Nat.not_lt_zero _ h, by rw [List.length_append, hsl]; exact hge, hcm2, ?_, ?_⟩, ⟨rfl, rfl, rfl, by simp, fun k hk _ => heap_alloc_old w.drew _ hk⟩, .inr fun g e => Nat.le_of_eq (Option.some.inj e)⟩
      · have hz1' : (Value.int IntKind.u8 0).cells.size = 1 := rfl
        simp only [Array.size_append, List.size_toArray, size_zeroCells, hz1', byteCells_len, strCells_length]
        omega
      · simp only [Array.toList_append, List.append_assoc]
        rw [← List.append_assoc, hsc, ← byteCells_append, show (l ++ s.data.toList).length = (byteCells (l ++ s.data.toList)).length from (byteCells_len _).symm]
        exact List.take_left
/-- 'append(b, s...)' in a walk. -/
theorem append_M {w : World} {ops : Array Oper} {rest : List Oper} {o : Oper} {a : Act} {Q : Exit → Act → World → Prop} (hgd : o.guard = none) (sl x : Operand)
    (ho : o.op = .call { callee := .builtin .append, args := #[sl, x], argTypes := #[84, 9] })
    (base : Nat) (v : Value) (l : List UInt8) (hs : a.eval sl = v) (hown : OwnM w base v l) (s : ByteArray) (hx : a.eval x = .string s) (hlen : l.length + s.size ≤ 4294967296) (hbase : base ≤ w.heap.size)
    (h : ∀ v' w', OwnM w' base v' (l ++ s.data.toList) → w.grownBy w' v.ownBlock → (v'.ownBlock = v.ownBlock ∨ ∀ g, v'.ownBlock = some g → w.heap.size ≤ g) → wpList Try.prog ops Q rest (a.put o.dst v') w') : wpList Try.prog ops Q (o :: rest) a w := by
  refine wpList_plain hgd fun K hK => ?_
  obtain ⟨v', w', hr, h1, h2, h3⟩ := run_append_M w base v l hown s o.type hlen hbase
  unfold Oper.wp execOp
  simp only [ho, resolve, invoke, builtin, Sem.run_bind, Sem.run_pure, Result.andThen_ok, List.map_toArray, List.map_cons, List.map_nil, hs, hx, hr]
  exact hK _ _ (h v' w' h1 h2 h3)
end Go.Proofs.Ytlgmjnnfndedbaa
