/- Plain Lean: what is escaped, byte by byte, and back. Nothing of a program stands here. -/
import Derived.Test.YtoipadpgpnkdkaaDoorUrl
import Derived.Deep.RegionWith
import Derived.IntWalk
namespace Go.Proofs.YtoipadpgpnkdkaaDoor.Url
open Go.Lib
set_option maxRecDepth 100000
set_option linter.unusedVariables false

theorem mayE_range (c : UInt8) (h : mayE c = true) : 33 ≤ c.toNat ∧ c.toNat ≤ 126 := by
  have : ∀ n : Fin 256, mayE (UInt8.ofNat n.val) = true → 33 ≤ n.val ∧ n.val ≤ 126 := by decide +kernel
  have h2 := this ⟨c.toNat, c.toNat_lt⟩
  simp only [UInt8.ofNat_toNat] at h2
  exact h2 h
theorem hexC_range (n : Nat) (h : n < 16) : 48 ≤ (hexC n).toNat ∧ (hexC n).toNat ≤ 70 ∧ hexN (hexC n).toNat = (n : Int) := by
  have : ∀ i : Fin 16, 48 ≤ (hexC i.val).toNat ∧ (hexC i.val).toNat ≤ 70 ∧ hexN (hexC i.val).toNat = ((i.val : Nat) : Int) := by decide +kernel
  exact this ⟨n, h⟩
/-- Where the byte j begins, once it is escaped. -/
def at_ (l : List UInt8) (j : Nat) : Nat := (esc (l.take j)).length
theorem at_zero (l : List UInt8) : at_ l 0 = 0 := rfl
theorem at_next {l : List UInt8} {j : Nat} (h : j < l.length) : at_ l (j + 1) = at_ l j + (escB l[j]).length := by
  unfold at_
  rw [List.take_succ_eq_append_getElem h, esc_append, List.length_append]
  congr 2
  show escB _ ++ [] = _
  rw [List.append_nil]
theorem at_end (l : List UInt8) {j : Nat} (h : l.length ≤ j) : at_ l j = (esc l).length := by
  unfold at_; rw [List.take_of_length_le h]
theorem esc_drop {l : List UInt8} {j : Nat} (h : j < l.length) : (esc l).drop (at_ l j) = escB l[j] ++ esc (l.drop (j + 1)) := by
  have e : esc l = esc (l.take j) ++ (escB l[j] ++ esc (l.drop (j + 1))) := by
    rw [← esc_cons, ← List.drop_eq_getElem_cons h, ← esc_append, List.take_append_drop]
  rw [e]
  unfold at_
  rw [List.drop_left]
theorem escB_pos (c : UInt8) : 1 ≤ (escB c).length := by unfold escB; split <;> simp
theorem at_le {l : List UInt8} {j : Nat} (h : j < l.length) : at_ l j + (escB l[j]).length ≤ (esc l).length := by
  have h1 := congrArg List.length (esc_drop h)
  rw [List.length_drop, List.length_append] at h1
  have h2 : at_ l j ≤ (esc l).length := by
    have := congrArg List.length (show esc l = esc (l.take j) ++ esc (l.drop j) by rw [← esc_append, List.take_append_drop])
    rw [List.length_append] at this
    unfold at_
    omega
  have := escB_pos l[j]
  omega
theorem esc_get {l : List UInt8} {j i : Nat} (h : j < l.length) (hi : i < (escB l[j]).length) : (esc l)[at_ l j + i]? = (escB l[j])[i]? := by
  rw [← List.getElem?_drop, esc_drop h, List.getElem?_append_left hi]
/-- A byte that stands as it is. -/
theorem at_fine {l : List UInt8} {j : Nat} (h : j < l.length) (hc : mayE l[j] = true) : (esc l)[at_ l j]? = some l[j] ∧ at_ l (j + 1) = at_ l j + 1 ∧ at_ l j + 1 ≤ (esc l).length := by
  have e : escB l[j] = [l[j]] := by unfold escB; rw [if_pos hc]
  have h1 := esc_get (i := 0) h (by rw [e]; simp)
  have h2 := at_next h
  have h3 := at_le h
  rw [e] at h1 h2 h3
  exact ⟨h1, h2, h3⟩
/-- A byte that is written with three. -/
theorem at_hex {l : List UInt8} {j : Nat} (h : j < l.length) (hc : mayE l[j] = false) :
    (esc l)[at_ l j]? = some 37 ∧ (esc l)[at_ l j + 1]? = some (hexC (l[j].toNat / 16)) ∧ (esc l)[at_ l j + 2]? = some (hexC (l[j].toNat % 16)) ∧ at_ l (j + 1) = at_ l j + 3 ∧ at_ l j + 3 ≤ (esc l).length := by
  have e : escB l[j] = [37, hexC (l[j].toNat / 16), hexC (l[j].toNat % 16)] := by unfold escB; rw [if_neg (by rw [hc]; decide)]
  have h1 := esc_get (i := 0) h (by rw [e]; simp)
  have h2 := esc_get (i := 1) h (by rw [e]; simp)
  have h3 := esc_get (i := 2) h (by rw [e]; simp)
  have h4 := at_next h
  have h5 := at_le h
  rw [e] at h1 h2 h3 h4 h5
  exact ⟨h1, h2, h3, h4, h5⟩
def bareB (c : UInt8) : Bool := decide (c ≠ 37)
def bare (l : List UInt8) : List UInt8 := l.filter bareB
theorem bare_le (l : List UInt8) : (bare l).length ≤ l.length := List.length_filter_le _ _
theorem bare_ne {l : List UInt8} {j : Nat} (h : j < (bare l).length) : (bare l)[j] ≠ 37 := by
  have := (List.mem_filter.1 (List.getElem_mem h)).2
  simpa [bareB] using this
end Go.Proofs.YtoipadpgpnkdkaaDoor.Url
