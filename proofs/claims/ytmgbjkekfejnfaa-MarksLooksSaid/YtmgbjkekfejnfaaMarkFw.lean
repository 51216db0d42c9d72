/- Plain Lean: never more than three alike behind the last marker; what stood ahead of a marker comes back. -/
import Derived.Test.YtmgbjkekfejnfaaMarkPl
namespace Go.Proofs.Ytmgbjkekfejnfaa.Mk
open Go.Lib
set_option maxRecDepth 100000
set_option linter.unusedVariables false
/-- How many of a name stand behind the last marker among the first k. -/
def tcnt (l : List M) (nm : List UInt8) : Nat → Nat
  | 0 => 0
  | k + 1 => match l[k]? with
    | none => 0
    | some x => if x.id < 0 then 0 else (if x.name = nm then 1 else 0) + tcnt l nm k
theorem tcnt_step {l : List M} {nm : List UInt8} {k : Nat} {x : M} (hx : l[k]? = some x) : tcnt l nm (k + 1) = if x.id < 0 then 0 else (if x.name = nm then 1 else 0) + tcnt l nm k := by
  conv => lhs; unfold tcnt
  rw [hx]
theorem tcnt_app (l r : List M) (nm : List UInt8) : ∀ k, k ≤ l.length → tcnt (l ++ r) nm k = tcnt l nm k
  | 0, _ => rfl
  | k + 1, h => by
    have hx : l[k]? = some l[k] := List.getElem?_eq_getElem (by omega)
    have hy : (l ++ r)[k]? = some l[k] := by rw [List.getElem?_append_left (by omega)]; exact hx
    rw [tcnt_step hx, tcnt_step hy, tcnt_app l r nm k (by omega)]
theorem tcnt_snoc (l : List M) (m : M) (nm : List UInt8) : tcnt (l ++ [m]) nm (l.length + 1) = if m.id < 0 then 0 else (if m.name = nm then 1 else 0) + tcnt l nm l.length := by
  rw [tcnt_step (x := m) (by rw [List.getElem?_append_right (Nat.le_refl _)]; simp), tcnt_app l [m] nm l.length (Nat.le_refl _)]
theorem behind_app (l r : List M) : ∀ k, k ≤ l.length → behind (l ++ r) k = behind l k
  | 0, _ => rfl
  | k + 1, h => by
    have hx : l[k]? = some l[k] := List.getElem?_eq_getElem (by omega)
    have hy : (l ++ r)[k]? = some l[k] := by rw [List.getElem?_append_left (by omega)]; exact hx
    rw [behind_step hx, behind_step hy, behind_app l r k (by omega)]
/-- What stands behind the last marker is none. -/
theorem behind_pos (l : List M) : ∀ n k y, n ≤ l.length → behind l n ≤ k → k < n → l[k]? = some y → 0 ≤ y.id
  | 0, k, y, _, _, h, _ => by omega
  | n + 1, k, y, hn0, h1, h2, h3 => by
    cases hx : l[n]? with
    | none =>
      have := List.getElem?_eq_none_iff.1 hx
      omega
    | some x =>
      rw [behind_step hx] at h1
      by_cases hn : x.id < 0
      · rw [if_pos hn] at h1; omega
      · rw [if_neg hn] at h1
        by_cases hk : k = n
        · subst hk
          rw [hx] at h3
          cases h3
          omega
        · exact behind_pos l n k y (by omega) h1 (by omega) h3
/-- Ahead of it stands a marker. -/
theorem behind_mark (l : List M) : ∀ n b, n ≤ l.length → behind l n = b + 1 → ∃ y, l[b]? = some y ∧ y.id < 0
  | 0, b, _, h => by simp [behind] at h
  | n + 1, b, hn, h => by
    have hx : l[n]? = some l[n] := List.getElem?_eq_getElem (by omega)
    generalize l[n] = x at hx
    rw [behind_step hx] at h
    by_cases hi : x.id < 0
    · rw [if_pos hi] at h
      obtain rfl : n = b := by omega
      exact ⟨x, hx, hi⟩
    · rw [if_neg hi] at h
      exact behind_mark l n b (by omega) h
theorem tcnt_zero {l : List M} {n : Nat} (hn : n ≤ l.length) (nm : List UInt8) : tcnt l nm (behind l n) = 0 := by
  cases hb : behind l n with
  | zero => rfl
  | succ b =>
    obtain ⟨y, hy, hi⟩ := behind_mark l n b hn hb
    rw [tcnt_step hy, if_pos hi]
theorem alike_bare {m x : M} (hm : m.atts = []) (hx : x.atts = []) : alike m x = decide (m.name = x.name) := by
  unfold alike
  rw [hm, hx]
  simp
/-- What Push counts is what stands behind the last marker. -/
theorem cnt_tcnt {l : List M} {m : M} {n : Nat} (hn : n ≤ l.length) (hl : ∀ x ∈ l, x.atts = []) (hm : m.atts = []) : ∀ k, behind l n ≤ k → k ≤ n → (cntK l m (behind l n) k).1 = tcnt l m.name k
  | 0, h1, _ => by
    have : behind l n = 0 := by omega
    rfl
  | k + 1, h1, h2 => by
    by_cases hb : behind l n = k + 1
    · rw [← hb, cntK_start, tcnt_zero hn]
    · have hx : l[k]? = some l[k] := List.getElem?_eq_getElem (by omega)
      have hmem : l[k] ∈ l := List.getElem_mem _
      generalize l[k] = x at hx hmem
      have hp := behind_pos l n k x hn (by omega) (by omega) hx
      rw [cntK_step (by omega) hx, tcnt_step hx, if_neg (show ¬ x.id < 0 by omega), alike_bare hm (hl x hmem), ← cnt_tcnt hn hl hm k (by omega) (by omega)]
      by_cases hnm : m.name = x.name
      · rw [if_pos (by simp [hnm]), if_pos hnm.symm]
        show _ + 1 = 1 + _
        omega
      · rw [if_neg (by simp [hnm]), if_neg (fun e => hnm e.symm)]
        omega
theorem tcnt_cut (A : List M) (x : M) (B : List M) (nm : List UInt8) (hx : 0 ≤ x.id) : ∀ j, j ≤ B.length → (∀ y ∈ B, 0 ≤ y.id) → tcnt (A ++ x :: B) nm (A.length + 1 + j) = (if x.name = nm then 1 else 0) + tcnt (A ++ B) nm (A.length + j)
  | 0, _, _ => by
    show tcnt (A ++ x :: B) nm (A.length + 1) = (if x.name = nm then 1 else 0) + tcnt (A ++ B) nm A.length
    rw [tcnt_step (x := x) (by rw [List.getElem?_append_right (Nat.le_refl _)]; simp), if_neg (show ¬ x.id < 0 by omega), tcnt_app A (x :: B) nm A.length (Nat.le_refl _), tcnt_app A B nm A.length (Nat.le_refl _)]
  | j + 1, hj, hB => by
    have hy : B[j]? = some B[j] := List.getElem?_eq_getElem (by omega)
    have hmem : B[j] ∈ B := List.getElem_mem _
    generalize B[j] = y at hy hmem
    have h0 := hB y hmem
    have e1 : (A ++ x :: B)[A.length + 1 + j]? = some y := by
      rw [List.getElem?_append_right (by omega), show A.length + 1 + j - A.length = j + 1 by omega, List.getElem?_cons_succ]
      exact hy
    have e2 : (A ++ B)[A.length + j]? = some y := by
      rw [List.getElem?_append_right (by omega), show A.length + j - A.length = j by omega]
      exact hy
    rw [show A.length + 1 + (j + 1) = (A.length + 1 + j) + 1 by omega, show A.length + (j + 1) = (A.length + j) + 1 by omega, tcnt_step e1, tcnt_step e2, if_neg (show ¬ y.id < 0 by omega), if_neg (show ¬ y.id < 0 by omega), tcnt_cut A x B nm hx j (by omega) hB]
    omega
/-- Never more than three of a name behind the last marker; none has attributes. -/
def Few (l : List M) : Prop := (∀ x ∈ l, x.atts = []) ∧ ∀ nm, tcnt l nm l.length ≤ 3
theorem few_nil : Few [] := ⟨fun x h => (by cases h), fun nm => Nat.zero_le _⟩
theorem few_push {l : List M} {m : M} (h : Few l) (hm : m.atts = []) : Few (pushL l m) := by
  rcases push_is l m with ⟨e, hc⟩ | ⟨A, x, B, rfl, hb, ha, h0, h3, e⟩
  · rw [e]
    refine ⟨fun y hy => ?_, fun nm => ?_⟩
    · rcases List.mem_append.1 hy with hy | hy
      · exact h.1 y hy
      · rw [List.mem_singleton.1 hy]; exact hm
    · rw [List.length_append]
      show tcnt (l ++ [m]) nm (l.length + 1) ≤ 3
      rw [tcnt_snoc]
      by_cases hi : m.id < 0
      · rw [if_pos hi]; omega
      · rw [if_neg hi]
        by_cases hn : m.name = nm
        · rw [if_pos hn]
          rcases hc with hc | hc
          · omega
          · rw [cnt_tcnt (Nat.le_refl _) h.1 hm l.length (behind_le _ _) (Nat.le_refl _), hn] at hc
            omega
        · rw [if_neg hn]
          have := h.2 nm
          omega
  · rw [e]
    have hlen : (A ++ x :: B).length = A.length + 1 + B.length := by simp; omega
    have hpos : ∀ y ∈ x :: B, 0 ≤ y.id := fun y hy => by
      obtain ⟨i, hi⟩ := List.getElem?_of_mem hy
      have hil := (List.getElem?_eq_some_iff.1 hi).1
      have hil2 : i < B.length + 1 := by rw [List.length_cons] at hil; exact hil
      have h9 : A.length + i < (A ++ x :: B).length := by rw [hlen]; omega
      have h8 : behind (A ++ x :: B) (A ++ x :: B).length ≤ A.length + i := Nat.le_trans hb (Nat.le_add_right _ _)
      refine behind_pos _ _ (A.length + i) y (Nat.le_refl _) h8 h9 ?_
      rw [List.getElem?_append_right (by omega), show A.length + i - A.length = i by omega]
      exact hi
    have hx : 0 ≤ x.id := hpos x (List.mem_cons_self ..)
    have hB : ∀ y ∈ B, 0 ≤ y.id := fun y hy => hpos y (List.mem_cons_of_mem _ hy)
    have hxa : x.atts = [] := h.1 x (by simp)
    have hnm : m.name = x.name := by rw [alike_bare hm hxa] at ha; simpa using ha
    have key := fun nm => tcnt_cut A x B nm hx B.length (Nat.le_refl _) hB
    refine ⟨fun y hy => ?_, fun nm => ?_⟩
    · rcases List.mem_append.1 hy with hy | hy
      · exact h.1 y (by
          rcases List.mem_append.1 hy with q | q
          · exact List.mem_append_left _ q
          · exact List.mem_append_right _ (List.mem_cons_of_mem _ q))
      · rw [List.mem_singleton.1 hy]; exact hm
    · rw [List.length_append]
      show tcnt (A ++ B ++ [m]) nm ((A ++ B).length + 1) ≤ 3
      rw [tcnt_snoc, if_neg (by omega)]
      have h4 := h.2 nm
      rw [hlen, key nm] at h4
      rw [List.length_append]
      by_cases hn : m.name = nm
      · rw [if_pos hn]
        rw [if_pos (by rw [← hnm]; exact hn)] at h4
        omega
      · rw [if_neg hn]
        omega
/-! ### What stood ahead of a marker -/
theorem behind_same (P S : List M) (hS : ∀ y ∈ S, 0 ≤ y.id) : ∀ j, j ≤ S.length → behind (P ++ S) (P.length + j) = behind P P.length
  | 0, _ => behind_app P S P.length (Nat.le_refl _)
  | j + 1, hj => by
    have hy : S[j]? = some S[j] := List.getElem?_eq_getElem (by omega)
    have hmem : S[j] ∈ S := List.getElem_mem _
    generalize S[j] = y at hy hmem
    have h0 := hS y hmem
    have e : (P ++ S)[P.length + j]? = some y := by
      rw [List.getElem?_append_right (by omega), show P.length + j - P.length = j by omega]
      exact hy
    rw [show P.length + (j + 1) = (P.length + j) + 1 by omega, behind_step e, if_neg (by omega), behind_same P S hS j (by omega)]
theorem behind_last (l : List M) (k : M) (hk : k.id < 0) : behind (l ++ [k]) (l ++ [k]).length = l.length + 1 := by
  rw [List.length_append]
  show behind (l ++ [k]) (l.length + 1) = _
  rw [behind_step (x := k) (by rw [List.getElem?_append_right (Nat.le_refl _)]; simp), if_pos hk]
/-- The list behind the marker may be anything that is no marker. -/
def Ahead (l : List M) (k : M) (all : List M) : Prop := ∃ S, all = (l ++ [k]) ++ S ∧ ∀ y ∈ S, 0 ≤ y.id
theorem ahead_mark (l : List M) (k : M) (hk : k.id < 0) : Ahead l k (pushL l k) := by
  rcases push_is l k with ⟨e, _⟩ | ⟨_, _, _, _, _, _, h0, _⟩
  · exact ⟨[], by rw [e, List.append_nil], fun y hy => by cases hy⟩
  · omega
theorem ahead_push {l all : List M} {k m : M} (h : Ahead l k all) (hk : k.id < 0) (hm : 0 ≤ m.id) : Ahead l k (pushL all m) := by
  obtain ⟨S, rfl, hS⟩ := h
  rcases push_is ((l ++ [k]) ++ S) m with ⟨e, _⟩ | ⟨A, x, B, e1, hb, _, _, _, e2⟩
  · refine ⟨S ++ [m], by rw [e, List.append_assoc], fun y hy => ?_⟩
    rcases List.mem_append.1 hy with hy | hy
    · exact hS y hy
    · rw [List.mem_singleton.1 hy]; exact hm
  · rw [List.length_append (as := l ++ [k]), behind_same (l ++ [k]) S hS S.length (Nat.le_refl _), behind_last l k hk] at hb
    have hlen : (l ++ [k]).length ≤ A.length := by simpa using hb
    obtain ⟨A', rfl⟩ : ∃ A', A = (l ++ [k]) ++ A' := by
      have h1 : ((l ++ [k]) ++ S).take (l ++ [k]).length = (A ++ x :: B).take (l ++ [k]).length := by rw [e1]
      rw [List.take_left, List.take_append_of_le_length hlen] at h1
      refine ⟨A.drop (l ++ [k]).length, ?_⟩
      have h2 := List.take_append_drop (l ++ [k]).length A
      rw [← h1] at h2
      exact h2.symm
    have e3 : S = A' ++ x :: B := by
      have := e1
      rw [List.append_assoc (l ++ [k]) A'] at this
      exact List.append_cancel_left this
    refine ⟨A' ++ B ++ [m], by rw [e2]; simp, fun y hy => ?_⟩
    rcases List.mem_append.1 hy with hy | hy
    · refine hS y ?_
      rw [e3]
      rcases List.mem_append.1 hy with q | q
      · exact List.mem_append_left _ q
      · exact List.mem_append_right _ (List.mem_cons_of_mem _ q)
    · rw [List.mem_singleton.1 hy]; exact hm
theorem ahead_clear {l all : List M} {k : M} (h : Ahead l k all) (hk : k.id < 0) : clearL all = l := by
  obtain ⟨S, rfl, hS⟩ := h
  unfold clearL
  rw [List.length_append (as := l ++ [k]), behind_same (l ++ [k]) S hS S.length (Nat.le_refl _), behind_last l k hk, Nat.add_sub_cancel]
  rw [List.append_assoc, List.take_append_of_le_length (Nat.le_refl _), List.take_of_length_le (Nat.le_refl _)]
theorem push_last (l : List M) (m : M) : (pushL l m)[(pushL l m).length - 1]? = some m ∧ (pushL l m).length ≠ 0 := by
  unfold pushL
  simp
theorem push_len (l : List M) (m : M) : (pushL l m).length ≤ l.length + 1 := by
  rcases push_is l m with ⟨e, _⟩ | ⟨A, x, B, rfl, _, _, _, _, e⟩
  · rw [e]; simp
  · rw [e]; simp
end Go.Proofs.Ytmgbjkekfejnfaa.Mk
