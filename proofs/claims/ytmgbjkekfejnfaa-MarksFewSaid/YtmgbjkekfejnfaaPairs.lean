/- Lists of pairs of texts in memory (a struct of two strings), and when two lists are alike. -/
import Derived.Test.YtmgbjkekfejnfaaGnd
import Derived.Test.YtmgbjkekfejnfaaBs
namespace Go.Proofs.Ytmgbjkekfejnfaa
open Go.RowKit Go.Lib
set_option maxRecDepth 100000
set_option linter.unusedVariables false

/-- A list of pairs of texts. -/
def IsA (w : World) (a : Option Addr) (len : Nat) (ls : List (List UInt8 × List UInt8)) : Prop :=
  ls.length = len ∧ (len = 0 ∨ ∃ b off, a = some ⟨b, off, none⟩ ∧ ∀ i x, ls[i]? = some x → w.cell? ⟨b, off + i * 2, none⟩ = some (.string (bs x.1)) ∧ w.cell? ⟨b, off + i * 2 + 1, none⟩ = some (.string (bs x.2)))
theorem IsA.below {w w' : World} {a : Option Addr} {len : Nat} {ls : List (List UInt8 × List UInt8)} (h : IsA w a len ls) (hb : Below w.heap.size w w') : IsA w' a len ls := by
  refine ⟨h.1, h.2.elim .inl fun ⟨b, off, e, hat⟩ => .inr ⟨b, off, e, fun i x hi => ?_⟩⟩
  obtain ⟨h1, h2⟩ := hat i x hi
  have hlt : b < w.heap.size := by
    rcases Nat.lt_or_ge b w.heap.size with h' | h'
    · exact h'
    · simp [World.cell?, Array.getElem?_eq_none h'] at h1
  exact ⟨(hb.cell (p := ⟨b, off + i * 2, none⟩) hlt).trans h1, (hb.cell (p := ⟨b, off + i * 2 + 1, none⟩) hlt).trans h2⟩
theorem IsA.take {w : World} {a : Option Addr} {len : Nat} {ls : List (List UInt8 × List UInt8)} (h : IsA w a len ls) (k : Nat) (hk : k ≤ len) : IsA w a k (ls.take k) := by
  refine ⟨by rw [List.length_take, h.1]; omega, ?_⟩
  rcases h.2 with h0 | ⟨b, off, e, hat⟩
  · exact .inl (by omega)
  · refine .inr ⟨b, off, e, fun i x hi => hat i x ?_⟩
    have hlt : i < (ls.take k).length := (List.getElem?_eq_some_iff.1 hi).1
    rw [List.length_take] at hlt
    rwa [List.getElem?_take_of_lt (by omega)] at hi
theorem bs_inj {x y : List UInt8} (h : (bs x).toList = (bs y).toList) : x = y := by
  rw [ByteArray.toList_eq, ByteArray.toList_eq] at h
  exact h
theorem take_more {α : Type} {l m : List α} {k : Nat} {x : α} (h : l.take k = m.take k) (hl : l[k]? = some x) (hm : m[k]? = some x) : l.take (k + 1) = m.take (k + 1) := by
  rw [List.take_add_one, List.take_add_one, h, hl, hm]
theorem take_all {α : Type} {l m : List α} {k n : Nat} (h : l.take k = m.take k) (hl : l.length = n) (hm : m.length = n) (hk : ¬ k < n) : l = m := by
  rwa [List.take_of_length_le (by omega), List.take_of_length_le (by omega)] at h
theorem get_ne {α : Type} {l m : List α} {k : Nat} {x y : α} (hl : l[k]? = some x) (hm : m[k]? = some y) (h : x ≠ y) : ¬ l = m := by
  intro e
  rw [e, hm] at hl
  exact h (Option.some.inj hl).symm
def pairL (ls : List (List UInt8 × List UInt8)) : List Value := ls.flatMap fun x => [Value.string (bs x.1), Value.string (bs x.2)]
theorem pairL_get : ∀ (ls : List (List UInt8 × List UInt8)) (i : Nat) (x : List UInt8 × List UInt8), ls[i]? = some x → (pairL ls)[i * 2]? = some (.string (bs x.1)) ∧ (pairL ls)[i * 2 + 1]? = some (.string (bs x.2))
  | [], i, x, h => by simp at h
  | y :: t, 0, x, h => by
    simp at h
    subst h
    exact ⟨rfl, rfl⟩
  | y :: t, i + 1, x, h => by
    have h1 := pairL_get t i x (by simpa using h)
    have e : pairL (y :: t) = Value.string (bs y.1) :: Value.string (bs y.2) :: pairL t := rfl
    rw [e, show (i + 1) * 2 = i * 2 + 2 by omega]
    exact ⟨by simpa using h1.1, by simpa using h1.2⟩
theorem pairL_len (ls : List (List UInt8 × List UInt8)) : (pairL ls).length = ls.length * 2 := by
  induction ls with
  | nil => rfl
  | cons a t ih =>
    have e : pairL (a :: t) = Value.string (bs a.1) :: Value.string (bs a.2) :: pairL t := rfl
    rw [e, List.length_cons, List.length_cons, List.length_cons, ih]; omega
theorem pairL_append (a b : List (List UInt8 × List UInt8)) : pairL (a ++ b) = pairL a ++ pairL b := by simp [pairL]
theorem isA_of_cells {W : World} {g : Nat} {ls : List (List UInt8 × List UInt8)} {C : Array Value} {t : TypeId} {fr : Nat × Nat} {n : Nat} (hn : ls.length = n) (h : W.heap[g]? = some (.cells C t fr)) (hC : C.toList = pairL ls) : IsA W (some ⟨g, 0, none⟩) n ls := by
  refine ⟨hn, .inr ⟨g, 0, rfl, fun i x hi => ?_⟩⟩
  obtain ⟨h1, h2⟩ := pairL_get ls i x hi
  rw [← hC, Array.getElem?_toList] at h1 h2
  rw [Nat.zero_add]
  simp only [World.cell?, h]
  exact ⟨by simpa using h1, by simpa using h2⟩
theorem pairs_one (ls : List (List UInt8 × List UInt8)) : ∀ u ∈ pairL ls, u.oneCell' = true := by
  intro u hu
  simp only [pairL, List.mem_flatMap] at hu
  obtain ⟨b, _, hb⟩ := hu
  simp at hb
  rcases hb with rfl | rfl <;> rfl
theorem pairL_at : ∀ (ls : List (List UInt8 × List UInt8)) (j : Nat) (u : Value), (pairL ls)[j]? = some u → ∃ i x, ls[i]? = some x ∧ ((j = i * 2 ∧ u = .string (bs x.1)) ∨ (j = i * 2 + 1 ∧ u = .string (bs x.2)))
  | [], j, u, h => by simp [pairL] at h
  | y :: t, 0, u, h => ⟨0, y, rfl, .inl ⟨rfl, by
      have e : pairL (y :: t) = Value.string (bs y.1) :: Value.string (bs y.2) :: pairL t := rfl
      rw [e] at h
      simpa using h.symm⟩⟩
  | y :: t, 1, u, h => ⟨0, y, rfl, .inr ⟨rfl, by
      have e : pairL (y :: t) = Value.string (bs y.1) :: Value.string (bs y.2) :: pairL t := rfl
      rw [e] at h
      simpa using h.symm⟩⟩
  | y :: t, j + 2, u, h => by
    have e : pairL (y :: t) = Value.string (bs y.1) :: Value.string (bs y.2) :: pairL t := rfl
    rw [e] at h
    obtain ⟨i, x, h1, h2⟩ := pairL_at t j u (by simpa using h)
    exact ⟨i + 1, x, by simpa using h1, h2.imp (fun ⟨a, b⟩ => ⟨by omega, b⟩) (fun ⟨a, b⟩ => ⟨by omega, b⟩)⟩
theorem isA_cells {w : World} {ad : Addr} {n : Nat} {ls : List (List UInt8 × List UInt8)} (h : IsA w (some ad) n ls) : ∀ j u, (pairL ls)[j]? = some u → w.cell? (ad.add j) = some u := by
  intro j u hj
  obtain ⟨i, x, hi, hx⟩ := pairL_at ls j u hj
  rcases h.2 with h0 | ⟨b', o', e, hat⟩
  · have hl : ls = [] := List.length_eq_zero_iff.1 (by rw [h.1, h0])
    subst hl
    cases hi
  · obtain rfl := Option.some.inj e
    obtain ⟨h1, h2⟩ := hat i x hi
    rw [addr_add]
    rcases hx with ⟨rfl, rfl⟩ | ⟨rfl, rfl⟩
    · exact h1
    · rw [← Nat.add_assoc]; exact h2
end Go.Proofs.Ytmgbjkekfejnfaa
