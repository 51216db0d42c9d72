/- Walks over the program's package marks: Push. -/
import Derived.Test.YtmgbjkekfejnfaaMarkSp
import Derived.Test.YtmgbjkekfejnfaaMarkCl
import Derived.ArgAppend
import Derived.Deep.DeepCutAuto
import Derived.Deep.RegionLaw
namespace Go.Proofs.Ytmgbjkekfejnfaa
open Go.RowKit Go.Lib
set_option maxRecDepth 100000
set_option linter.unusedVariables false
theorem rowM_cells {w : World} {ad : Addr} {n : Nat} {rs : List MR} (h : RowM w (some ad) n rs) : ∀ j u, (mL rs)[j]? = some u → w.cell? (ad.add j) = some u := by
  intro j u hj
  obtain ⟨i, r, hr, hu⟩ := mL_at rs j u hj
  obtain ⟨hll, h0 | ⟨b', off', e, hat⟩⟩ := h
  · have := (List.getElem?_eq_some_iff.1 hr).1
    omega
  · cases e
    rw [addr_add]
    obtain ⟨c0, c1, c2⟩ := hat i r hr
    rcases hu with ⟨rfl, rfl⟩ | ⟨rfl, rfl⟩ | ⟨rfl, rfl⟩
    · exact c0
    · rw [← Nat.add_assoc]; exact c1
    · rw [← Nat.add_assoc]; exact c2
theorem own_wide {w : World} {base base' : Nat} {e : TypeId} {size : Nat} {v : Value} {n : Nat} {xs : List Value} (h : w.ownsRow base e size v n xs) (hb : base' ≤ base) : w.ownsRow base' e size v n xs := by
  obtain ⟨q, q2⟩ := h
  exact ⟨q, q2.imp (fun e => e) fun ⟨g', cap, cur, a1, a2, a3⟩ => ⟨g', cap, cur, a1, by omega, a3⟩⟩
/-- A list behind which nobody else's memory is written: no room behind it, or the call's own. -/
def KeptV (B : Nat) (w : World) (v : Value) (l : List MR) : Prop :=
  (∃ a, v = .slice a l.length l.length ∧ (a = none → l.length = 0) ∧ RowM w a l.length l) ∨ w.ownsRow B 25 3 v l.length (mL l)
theorem KeptV.alloc {B : Nat} {w : World} {v : Value} {l : List MR} (h : KeptV B w v l) (o : Obj) : KeptV B (w.alloc o) v l :=
  h.imp (fun ⟨a, h1, h2, h3⟩ => ⟨a, h1, h2, h3.below ((Below.refl _ w).alloc (Nat.le_refl _) o)⟩) (fun h => h.alloc o)
/-- 'append(kept, x)', x just laid in a block of its own. -/
theorem append_kept {w : World} {ops : Array Oper} {rest : List Oper} {o : Oper} {a : Act} {Q : Exit → Act → World → Prop} (hgd : o.guard = none) (s y : Operand)
    (ho : o.op = .call { callee := .builtin .append, args := #[s, y], argTypes := #[22, 22] })
    (B : Nat) (v : Value) (acc : List MR) (hs : a.eval s = v) (hk : KeptV B w v acc)
    (g c : Nat) (x : MR) (hx : a.eval y = .slice (some ⟨g, 0, none⟩) 1 c) (hnew : BlkW w g #[.int .i64 x.id, .string (bs x.name), .slice x.aa x.an x.ac] 25)
    (hlen : acc.length + 1 ≤ 4294967296) (hbase : B ≤ w.heap.size)
    (h : ∀ v' w', w'.ownsRow B 25 3 v' (acc ++ [x]).length (mL (acc ++ [x])) → Below B w w' → wpList Try.prog ops Q rest (a.put o.dst v') w') : wpList Try.prog ops Q (o :: rest) a w := by
  rcases hk with ⟨ao, rfl, hn, hr⟩ | hown
  · obtain ⟨i0, hi, hz0, hz1, hz2⟩ := info_parts info_mark
    refine wpList_append_grows w hgd s y 22 ho 25 i0 (.agg #[.int .i64 0, .string ⟨#[]⟩, .slice none 0 0]) 3 48 Try.underlying22 hi hz0 hz1 hz2 rfl (by decide) ao acc.length acc.length (mL acc) hs (fun e => ⟨hn e, hn e⟩) (by rw [mL_len])
      (fun b e => by subst e; exact rowM_cells hr) ⟨g, 0, none⟩ 1 c (mL [x]) hx rfl ?_ (mL_one [x]) (by omega) (by unfold maxLen; omega) (by omega) ?_
    · intro j u hj
      rw [addr_add, Nat.zero_add, hnew.cell]
      rw [show mL [x] = [.int .i64 x.id, .string (bs x.name), .slice x.aa x.an x.ac] from rfl] at hj
      simpa using hj
    · intro v' w' h1 h2
      refine h v' w' ?_ ((Below.refl B w).grown h2 hbase (fun k e => by cases e))
      rw [List.length_append, mL_append]
      exact own_wide h1 hbase
  · exact append_m hgd s y ho B v acc hs hown g c x hx hnew hlen hbase fun v' w' h1 h2 => h v' w' h1 ((Below.refl B w).grown h2 hbase (own_ge hown))
/-- 'append(s[:i:i], s[i+1:]...)': nothing is appended, and all stays; or a new row. -/
theorem step_cutM {w : World} {ops : Array Oper} {o : Oper} {a : Act} {K : Act → World → Prop} {Q : Exit → Act → World → Prop} {E : Prop} (hgd : o.guard = none) (s x : Operand)
    (ho : o.op = .call { callee := .builtin .append, args := #[s, x], argTypes := #[22, 22] })
    (b off n i : Nat) (rs : List MR) (hR : RowM w (some ⟨b, off, none⟩) n rs) (hin : i < n) (hs : a.eval s = .slice (some ⟨b, off, none⟩) i i)
    (ad : Addr) (m c : Nat) (hx : a.eval x = .slice (some ad) m c) (hm : m = n - (i + 1)) (had : m = 0 ∨ ad = ⟨b, off + (i + 1) * 3, none⟩) (hlen : n ≤ 4294967295) (B : Nat) (hB : B ≤ w.heap.size)
    (h : ∀ v' w', KeptV B w' v' (rs.take i ++ rs.drop (i + 1)) → Below B w w' → K (a.put o.dst v') w') :
    if Region.wanted o (yielded ops a.tmps) = true then Oper.wp Try.prog o a w K Q else E := by
  have hw : Region.wanted o (yielded ops a.tmps) = true := by simp [Region.wanted, hgd]
  rw [if_pos hw]
  obtain ⟨i0, hi, hz0, hz1, hz2⟩ := info_parts info_mark
  have hln : rs.length = n := hR.1
  have ht : (rs.take i).length = i := by rw [List.length_take]; omega
  have hd : (rs.drop (i + 1)).length = m := by rw [List.length_drop]; omega
  have ho1 := rowM_cells (hR.take (show i ≤ n by omega))
  by_cases h0 : m = 0
  · subst h0
    have hdn : rs.drop (i + 1) = [] := List.eq_nil_of_length_eq_zero hd
    have hr := run_append_room_cells (P := Try.prog) (w := w) 22 o.type 25 i0 Try.underlying22 hi b off i i ad 0 c [] (by simp) (fun j u hj => by cases hj) (fun u hu => by cases hu) (by omega) (fun j hj => by simp at hj) (fun j hj => by simp at hj)
    unfold Oper.wp execOp
    simp only [ho, resolve, invoke, builtin, Sem.run_bind, Sem.run_pure, Result.andThen_ok, List.map_toArray, List.map_cons, List.map_nil, hs, hx, hr]
    refine h _ w (.inl ⟨some ⟨b, off, none⟩, ?_, (fun e => by cases e), ?_⟩) (Below.refl _ _)
    · rw [hdn, List.append_nil, ht]; rfl
    · rw [hdn, List.append_nil, ht]; exact hR.take (by omega)
  · have e := had.resolve_left h0
    subst e
    have hn1 : ∀ j u, (mL (rs.drop (i + 1)))[j]? = some u → w.cell? ((⟨b, off + (i + 1) * 3, none⟩ : Addr).add j) = some u := by
      intro j u hj
      have hj2 : (mL rs)[(i + 1) * 3 + j]? = some u := by
        have e : mL rs = mL (rs.take (i + 1)) ++ mL (rs.drop (i + 1)) := by rw [← mL_append, List.take_append_drop]
        rw [e, List.getElem?_append_right (by rw [mL_len, List.length_take]; omega), mL_len, List.length_take, show min (i + 1) rs.length = i + 1 by omega, Nat.add_sub_cancel_left]
        exact hj
      have := rowM_cells hR _ u hj2
      rw [addr_add] at this ⊢
      rw [Nat.add_assoc]
      exact this
    obtain ⟨v', w', hrun, r1, r2⟩ := run_append_arg_grows (P := Try.prog) (w := w) 22 o.type 25 i0 (.agg #[.int .i64 0, .string ⟨#[]⟩, .slice none 0 0]) 3 48 Try.underlying22 hi hz0 hz1 hz2 rfl (by decide) ⟨b, off, none⟩ i i (mL (rs.take i)) (by rw [mL_len, ht]) ho1 ⟨b, off + (i + 1) * 3, none⟩ m c (mL (rs.drop (i + 1))) (by rw [mL_len, hd]) hn1 (by omega) (by unfold maxLen; omega) (by omega)
    unfold Oper.wp execOp
    simp only [ho, resolve, invoke, builtin, Sem.run_bind, Sem.run_pure, Result.andThen_ok, List.map_toArray, List.map_cons, List.map_nil, hs, hx, hrun]
    refine h v' w' (.inr ?_) ((Below.refl B w).grown r2 hB (fun k e => by cases e))
    rw [List.length_append, ht, hd, mL_append]
    exact own_wide r1 hB
theorem Mk.keepK_mem {α : Type} {l : List α} {s : Int} {y : α} : ∀ k, y ∈ Mk.keepK l s k → y ∈ l
  | 0, h => by cases h
  | k + 1, h => by
    cases hx : l[k]? with
    | none =>
      unfold Mk.keepK at h
      rw [hx] at h
      exact Mk.keepK_mem k h
    | some x =>
      rw [Mk.keepK_step hx] at h
      split at h
      · exact Mk.keepK_mem k h
      · rcases List.mem_append.1 h with h | h
        · exact Mk.keepK_mem k h
        · rw [List.mem_singleton.1 h]; exact List.mem_of_getElem? hx
theorem Mk.keepK_cut {α : Type} (l : List α) (i : Nat) (hi : i < l.length) : Mk.keepK l (i : Int) l.length = l.take i ++ l.drop (i + 1) := by
  have e : l = l.take i ++ l[i] :: l.drop (i + 1) := by rw [← List.drop_eq_getElem_cons hi, List.take_append_drop]
  have hk := Mk.keepK_at (l.take i) l[i] (l.drop (i + 1)) l.length
  rw [← e] at hk
  have hl : (l.take i).length = i := by rw [List.length_take]; omega
  rw [hl] at hk
  rw [hk, if_neg (by omega), List.take_of_length_le (l := l.drop (i + 1)) (by rw [List.length_drop]; omega)]
theorem ShortN.push {xs : List Mk.M} {x : Mk.M} (h : ShortN xs) (hx : x.name.length ≤ 281474976710656) : ShortN (Mk.pushL xs x) := fun y hy => by
  rcases List.mem_append.1 hy with hy | hy
  · exact h y (Mk.keepK_mem _ hy)
  · rw [List.mem_singleton.1 hy]; exact hx
end Go.Proofs.Ytmgbjkekfejnfaa
