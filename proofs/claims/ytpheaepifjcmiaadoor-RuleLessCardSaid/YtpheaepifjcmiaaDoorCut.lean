/- Laws: 'append(s[:i:i], s[i+1:]...)' of texts, and of pairs, as one step of a region that draws its order. -/
import Derived.Test.YtpheaepifjcmiaaDoorOrd
import Derived.ArgAppend
import Derived.Deep.DeepCutAuto
namespace Go.Proofs.YtpheaepifjcmiaaDoor
open Go.RowKit Go.Lib Rule
set_option maxRecDepth 100000
set_option linter.unusedVariables false

/-- Both ends of it: nothing is appended, and all stays; or a new row. -/
theorem run_cut {P : Program} {w : World} (t ty e : TypeId) (i : TypeInfo) (z : Value) (size bytes : Nat) (ht : P.underlying t = some (.slice e)) (hi : P.info? e = some i) (hz : i.zero = some z)
    (hsize : i.size = size) (hby : i.bytes = bytes) (hzs : z.cells.size = size) (hsz : 0 < size)
    (b off n : Nat) (olds : List Value) (hlo : olds.length = n * size) (holds : ∀ j u, olds[j]? = some u → w.cell? ((⟨b, off, none⟩ : Addr).add j) = some u)
    (ad : Addr) (m c : Nat) (news : List Value) (hl : news.length = m * size) (hnews : ∀ j u, news[j]? = some u → w.cell? (ad.add j) = some u) (h1 : ∀ u ∈ news, u.oneCell' = true)
    (h63 : n + m ≤ maxLen) (hbytes : (n + m) * bytes ≤ 140737488355328) :
    ∃ v' w', (Builtin.append_ #[t, t] ty #[.slice (some ⟨b, off, none⟩) n n, .slice (some ad) m c]).run P w = .ok v' w' ∧ ((m = 0 ∧ v' = .slice (some ⟨b, off, none⟩) n n ∧ w' = w) ∨ (w'.ownsRow w.heap.size e size v' (n + m) (olds ++ news) ∧ w.grownBy w' none)) := by
  by_cases hm : m = 0
  · subst hm
    have hnil : news = [] := List.eq_nil_of_length_eq_zero (by simpa using hl)
    subst hnil
    subst hsize
    have hr := run_append_room_cells (P := P) w t ty e i ht hi b off n n ad 0 c [] (by simp) (fun j u hj => by cases hj) (fun u hu => by cases hu) (by omega) (fun j hj => by simp at hj) (fun j hj => by simp at hj)
    exact ⟨_, _, hr, .inl ⟨rfl, rfl, rfl⟩⟩
  · obtain ⟨v', w', hrun, r1, r2⟩ := run_append_arg_grows (P := P) w t ty e i z size bytes ht hi hz hsize hby hzs hsz ⟨b, off, none⟩ n n olds hlo holds ad m c news hl hnews (by omega) h63 hbytes
    exact ⟨v', w', hrun, .inr ⟨r1, r2⟩⟩
theorem less_len {α : Type} {l : List α} {i : Nat} (h : i < l.length) : (less l i).length = i + (l.length - (i + 1)) := by
  unfold less
  rw [List.length_append, List.length_take, List.length_drop]
  omega
theorem step_cutA {w : World} {ops : Array Oper} {o : Oper} {a : Act} {K : Act → World → Prop} {Q : Exit → Act → World → Prop} {E : Prop} (hgd : o.guard = none) (s x : Operand)
    (ho : o.op = .call { callee := .builtin .append, args := #[s, x], argTypes := #[23, 23] })
    (b off n i : Nat) (ls : List (List UInt8 × List UInt8)) (hI : IsA w (some ⟨b, off, none⟩) n ls) (hin : i < n) (hs : a.eval s = .slice (some ⟨b, off, none⟩) i i)
    (ad : Addr) (m c : Nat) (hx : a.eval x = .slice (some ad) m c) (hm : m = n - (i + 1)) (had : m = 0 ∨ ad = ⟨b, off + (i + 1) * 2, none⟩) (hlen : n ≤ 4294967296)
    (h : ∀ a' c' w', IsA w' a' (n - 1) (less ls i) → n - 1 ≤ c' → c' ≤ maxLen → (∀ z, a' = some z → z.block = b ∨ w.heap.size ≤ z.block) → w.grownBy w' none → K (a.put o.dst (.slice a' (n - 1) c')) w') :
    if Region.wanted o (yielded ops a.tmps) = true then Oper.wp Tryd.prog o a w K Q else E := by
  have hw : Region.wanted o (yielded ops a.tmps) = true := by simp [Region.wanted, hgd]
  rw [if_pos hw]
  obtain ⟨i0, hi, hz0, hz1, hz2⟩ := info_parts info_all
  have hln : ls.length = n := hI.1
  have hcells := isA_cells hI
  have hll := less_len (l := ls) (i := i) (by omega)
  rw [hln] at hll
  have ho1 : ∀ j u, (pairL (ls.take i))[j]? = some u → w.cell? ((⟨b, off, none⟩ : Addr).add j) = some u := isA_cells (hI.take i (by omega))
  have hn1 : ∀ j u, (pairL (ls.drop (i + 1)))[j]? = some u → w.cell? (ad.add j) = some u := by
    intro j u hj
    rcases had with h0 | h0
    · have : ls.drop (i + 1) = [] := List.drop_of_length_le (by omega)
      rw [this] at hj
      cases hj
    · subst h0
      have hj2 : (pairL ls)[(i + 1) * 2 + j]? = some u := by
        have e : pairL ls = pairL (ls.take (i + 1)) ++ pairL (ls.drop (i + 1)) := by rw [← pairL_append, List.take_append_drop]
        rw [e, List.getElem?_append_right (by rw [pairL_len, List.length_take]; omega), pairL_len, List.length_take, show min (i + 1) ls.length = i + 1 by omega, Nat.add_sub_cancel_left]
        exact hj
      have := hcells _ u hj2
      rw [addr_add] at this ⊢
      rw [Nat.add_assoc]
      exact this
  obtain ⟨v', w', hrun, hcase⟩ := run_cut (P := Tryd.prog) (w := w) 23 o.type 36 i0 (.agg #[.string ⟨#[]⟩, .string ⟨#[]⟩]) 2 32 Tryd.underlying23 hi hz0 hz1 hz2 rfl (by decide) b off i (pairL (ls.take i)) (by rw [pairL_len, List.length_take]; omega) ho1 ad m c (pairL (ls.drop (i + 1))) (by rw [pairL_len, List.length_drop, hm, hln]) hn1 (pairs_one _) (by unfold maxLen; omega) (by omega)
  unfold Oper.wp execOp
  simp only [ho, resolve, invoke, builtin, Sem.run_bind, Sem.run_pure, Result.andThen_ok, List.map_toArray, List.map_cons, List.map_nil, hs, hx, hrun]
  rcases hcase with ⟨h0, rfl, rfl⟩ | ⟨h1, h2⟩
  · have hd : ls.drop (i + 1) = [] := List.drop_of_length_le (by omega)
    have hle : less ls i = ls.take i := by unfold less; rw [hd, List.append_nil]
    have hni : n - 1 = i := by omega
    have := h (some ⟨b, off, none⟩) i w' (by rw [hle, hni]; exact hI.take i (by omega)) (by omega) (by unfold maxLen; omega) (fun z hz => by cases hz; exact .inl rfl) (World.grownBy.refl _ _)
    rw [hni] at this
    exact this
  · have hown : w'.ownsRow w.heap.size 36 2 v' (less ls i).length (pairL (less ls i)) := by
      rw [hll, ← hm]
      unfold less
      rw [pairL_append]
      exact h1
    obtain ⟨a', c', rfl, k1, k2, k3, k4, _⟩ := own_isA' hown
    have e1 : (less ls i).length = n - 1 := by omega
    rw [e1] at k1 k2 ⊢
    exact h a' c' w' k1 k2 k3 (fun z hz => .inr (k4 z hz)) h2
theorem step_cutS {w : World} {ops : Array Oper} {o : Oper} {a : Act} {K : Act → World → Prop} {Q : Exit → Act → World → Prop} {E : Prop} (hgd : o.guard = none) (s x : Operand)
    (ho : o.op = .call { callee := .builtin .append, args := #[s, x], argTypes := #[22, 22] })
    (b off n i : Nat) (ls : List (List UInt8)) (hI : IsS w (some ⟨b, off, none⟩) n ls) (hin : i < n) (hs : a.eval s = .slice (some ⟨b, off, none⟩) i i)
    (ad : Addr) (m c : Nat) (hx : a.eval x = .slice (some ad) m c) (hm : m = n - (i + 1)) (had : m = 0 ∨ ad = ⟨b, off + (i + 1), none⟩) (hlen : n ≤ 4294967296)
    (h : ∀ a' c' w', IsS w' a' (n - 1) (less ls i) → n - 1 ≤ c' → c' ≤ maxLen → (∀ z, a' = some z → z.block = b ∨ w.heap.size ≤ z.block) → w.grownBy w' none → K (a.put o.dst (.slice a' (n - 1) c')) w') :
    if Region.wanted o (yielded ops a.tmps) = true then Oper.wp Tryd.prog o a w K Q else E := by
  have hw : Region.wanted o (yielded ops a.tmps) = true := by simp [Region.wanted, hgd]
  rw [if_pos hw]
  obtain ⟨i0, hi, hz0, hz1, hz2⟩ := info_parts info_str
  have hln : ls.length = n := hI.1
  have hcells := isS_cells hI
  have hll := less_len (l := ls) (i := i) (by omega)
  rw [hln] at hll
  have ho1 : ∀ j u, (strsL (ls.take i))[j]? = some u → w.cell? ((⟨b, off, none⟩ : Addr).add j) = some u := isS_cells (hI.take i (by omega))
  have hn1 : ∀ j u, (strsL (ls.drop (i + 1)))[j]? = some u → w.cell? (ad.add j) = some u := by
    intro j u hj
    rcases had with h0 | h0
    · have : ls.drop (i + 1) = [] := List.drop_of_length_le (by omega)
      rw [this] at hj
      cases hj
    · subst h0
      have hj2 : (strsL ls)[(i + 1) + j]? = some u := by
        rw [strsL_get] at hj ⊢
        rw [List.getElem?_drop] at hj
        exact hj
      have := hcells _ u hj2
      rw [addr_add] at this ⊢
      rw [Nat.add_assoc]
      exact this
  obtain ⟨v', w', hrun, hcase⟩ := run_cut (P := Tryd.prog) (w := w) 22 o.type 9 i0 (.string ⟨#[]⟩) 1 16 Tryd.underlying22 hi hz0 hz1 hz2 rfl (by decide) b off i (strsL (ls.take i)) (by rw [strsL_len, List.length_take]; omega) ho1 ad m c (strsL (ls.drop (i + 1))) (by rw [strsL_len, List.length_drop, hm, hln]; omega) hn1 (strs_one _) (by unfold maxLen; omega) (by omega)
  unfold Oper.wp execOp
  simp only [ho, resolve, invoke, builtin, Sem.run_bind, Sem.run_pure, Result.andThen_ok, List.map_toArray, List.map_cons, List.map_nil, hs, hx, hrun]
  rcases hcase with ⟨h0, rfl, rfl⟩ | ⟨h1, h2⟩
  · have hd : ls.drop (i + 1) = [] := List.drop_of_length_le (by omega)
    have hle : less ls i = ls.take i := by unfold less; rw [hd, List.append_nil]
    have hni : n - 1 = i := by omega
    have := h (some ⟨b, off, none⟩) i w' (by rw [hle, hni]; exact hI.take i (by omega)) (by omega) (by unfold maxLen; omega) (fun z hz => by cases hz; exact .inl rfl) (World.grownBy.refl _ _)
    rw [hni] at this
    exact this
  · have hown : w'.ownsRow w.heap.size 9 1 v' (less ls i).length (strsL (less ls i)) := by
      rw [hll, ← hm]
      unfold less
      rw [strsL_append]
      exact h1
    obtain ⟨a', c', rfl, k1, k2, k3, k4, _⟩ := own_isS' hown
    have e1 : (less ls i).length = n - 1 := by omega
    rw [e1] at k1 k2 ⊢
    exact h a' c' w' k1 k2 k3 (fun z hz => .inr (k4 z hz)) h2
theorem IsS.setQ {w : World} {a : Option Addr} {n : Nat} {ls : List (List UInt8)} (h : IsS w a n ls) (p : Addr) (u : Value) (hne : n = 0 ∨ ∀ x, a = some x → x.block ≠ p.block) : IsS (w.setCell p u) a n ls :=
  hne.elim (fun h0 => ⟨h.1, .inl h0⟩) (fun hn => h.set_ p u hn)
theorem IsA.setQ {w : World} {a : Option Addr} {n : Nat} {ls : List (List UInt8 × List UInt8)} (h : IsA w a n ls) (p : Addr) (u : Value) (hne : n = 0 ∨ ∀ x, a = some x → x.block ≠ p.block) : IsA (w.setCell p u) a n ls :=
  hne.elim (fun h0 => ⟨h.1, .inl h0⟩) (fun hn => h.set_ p u hn)
theorem IsS.lt {w : World} {a : Option Addr} {n : Nat} {ls : List (List UInt8)} (h : IsS w a n ls) : n = 0 ∨ ∀ x, a = some x → x.block < w.heap.size := by
  rcases h.2 with h0 | ⟨b, off, e, hat⟩
  · exact .inl h0
  · by_cases hn : n = 0
    · exact .inl hn
    · refine .inr fun x hx => ?_
      rw [e] at hx
      cases hx
      have hl : 0 < ls.length := by have := h.1; omega
      exact World.block_lt_of_cell? _ _ (hat 0 _ (List.getElem?_eq_getElem hl))
theorem IsA.lt {w : World} {a : Option Addr} {n : Nat} {ls : List (List UInt8 × List UInt8)} (h : IsA w a n ls) : n = 0 ∨ ∀ x, a = some x → x.block < w.heap.size := by
  rcases h.2 with h0 | ⟨b, off, e, hat⟩
  · exact .inl h0
  · by_cases hn : n = 0
    · exact .inl hn
    · refine .inr fun x hx => ?_
      rw [e] at hx
      cases hx
      have hl : 0 < ls.length := by have := h.1; omega
      exact World.block_lt_of_cell? _ _ (hat 0 _ (List.getElem?_eq_getElem hl)).1
end Go.Proofs.YtpheaepifjcmiaaDoor
