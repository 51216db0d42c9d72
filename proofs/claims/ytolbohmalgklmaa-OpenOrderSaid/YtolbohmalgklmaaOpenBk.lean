/- Plain Lean: names in the other order; elements with other numbers and points. -/
import Derived.Test.YtolbohmalgklmaaOpenPr
namespace Go.Proofs.Ytolbohmalgklmaa
open Go.RowKit Go.Lib
set_option maxRecDepth 100000
set_option linter.unusedVariables false
theorem back_step {ns : List (List UInt8)} {k : Nat} {x : List UInt8} (hx : ns[k]? = some x) : (ns.drop k).reverse = (ns.drop (k + 1)).reverse ++ [x] := by
  obtain ⟨hk, e⟩ := List.getElem?_eq_some_iff.1 hx
  rw [List.drop_eq_getElem_cons hk, List.reverse_cons, e]
theorem back_len {ns : List (List UInt8)} {n : Nat} (h : ns.length = n) (k : Nat) : ((ns.drop k).reverse).length = n - k := by rw [List.length_reverse, List.length_drop, h]
/-- An element with another number and point, where there is one. -/
def turnE (x : Opn.E) (z : Option Int) : Opn.E := match z with
  | none => x
  | some z => ⟨z, x.space, x.name, (z % 256).toNat⟩
def turnK (l : List Opn.E) (zs : List Int) : Nat → List Opn.E
  | 0 => []
  | k + 1 => turnK l zs k ++ [turnE (l.getD k ⟨0, 0, [], 0⟩) zs[k]?]
theorem turnK_len (l : List Opn.E) (zs : List Int) : ∀ k, (turnK l zs k).length = k
  | 0 => rfl
  | k + 1 => by rw [turnK, List.length_append, turnK_len l zs k]; rfl
theorem turnK_get (l : List Opn.E) (zs : List Int) : ∀ k i, i < k → (turnK l zs k)[i]? = some (turnE (l.getD i ⟨0, 0, [], 0⟩) zs[i]?)
  | 0, i, h => by omega
  | k + 1, i, h => by
    rw [turnK]
    by_cases hi : i < k
    · rw [List.getElem?_append_left (by rw [turnK_len]; exact hi)]
      exact turnK_get l zs k i hi
    · obtain rfl : i = k := by omega
      rw [List.getElem?_append_right (by rw [turnK_len]; exact Nat.le_refl _), turnK_len, Nat.sub_self]
      rfl
theorem turnE_is (x : Opn.E) (z : Option Int) : (turnE x z).space = x.space ∧ (turnE x z).name = x.name := by
  cases z <;> exact ⟨rfl, rfl⟩
theorem turnK_like (l : List Opn.E) (zs : List Int) {n : Nat} (hn : l.length = n) : Opn.Like l (turnK l zs n) := by
  intro i
  by_cases hi : i < n
  · have hx : l[i]? = some l[i] := List.getElem?_eq_getElem (by omega)
    rw [turnK_get l zs n i hi, List.getD_eq_getElem?_getD, hx]
    obtain ⟨h1, h2⟩ := turnE_is l[i] zs[i]?
    simp [h1, h2]
  · rw [List.getElem?_eq_none (by omega), List.getElem?_eq_none (by rw [turnK_len]; omega)]
theorem turnK_sp (l : List Opn.E) (zs : List Int) {n : Nat} (hn : l.length = n) (h : ∀ x ∈ l, x.space < 256) : ∀ x ∈ turnK l zs n, x.space < 256 := by
  intro x hx
  obtain ⟨i, hi⟩ := List.getElem?_of_mem hx
  have hl := (List.getElem?_eq_some_iff.1 hi).1
  rw [turnK_len] at hl
  rw [turnK_get l zs n i hl] at hi
  cases hi
  rw [(turnE_is _ _).1, List.getD_eq_getElem?_getD, List.getElem?_eq_getElem (by omega)]
  exact h _ (List.getElem_mem _)
end Go.Proofs.Ytolbohmalgklmaa
