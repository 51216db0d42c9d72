/- Walks: the statements' own look-up of layer 7: does a text stand in another one. -/
import Derived.Test.YtinioghpghcdiaaDoorRefNoteA
namespace Go.Proofs.YtinioghpghcdiaaDoor
open Go.RowKit Go.Lib
set_option maxRecDepth 100000
set_option linter.unusedVariables false

theorem has_yes {l t : List UInt8} {k : Nat} (hk : k ≤ l.length) (h : hasPrefix (l.drop k) t = true) : Note.hasB l t = true := decide_eq_true ⟨k, hk, h⟩
theorem has_no {l t : List UInt8} (h : ∀ k, k ≤ l.length → hasPrefix (l.drop k) t = false) : Note.hasB l t = false := decide_eq_false fun ⟨k, h1, h2⟩ => by rw [h k h1] at h2; cases h2
theorem has_none {l t : List UInt8} (h : Note.hasB l t = false) (ht : t ≠ []) (k : Nat) : hasPrefix (l.drop k) t = false := by
  by_cases hk : k ≤ l.length
  · cases hc : hasPrefix (l.drop k) t with
    | false => rfl
    | true => rw [has_yes hk hc] at h; cases h
  · exact Note.pre_end (by omega) ht
set_option maxHeartbeats 2000000 in
theorem nhas_any (s p : ByteArray) (w : World) (hs : s.size ≤ 1000000) (hps : p.size ≤ 1000000) :
    Calls Tryd.prog 13 #[.string s, .string p] w fun e w' => e = .returned (.bool (Note.hasB s.data.toList p.data.toList)) ∧ w = w' := by
  have hsl := size_list s
  have hpl := size_list p
  have HSL := hid hsl
  have HPL := hid hpl
  have hpt : p.toList = p.data.toList := by rw [ByteArray.toList_eq]
  have HPT := hid hpt
  obtain ⟨B, hB⟩ : ∃ B, Note.hasB s.data.toList p.data.toList = B := ⟨_, rfl⟩
  rw [hB]
  have HB := hid hB
  clear hB hsl hpl hpt
  go_enter Tryd.func13, Tryd.ntmps13
  go_wp2
  go_loopg [5] (s.size + 1) (fun g iv wr => ∃ k : Nat, k + g = s.size + 1 ∧ iv = .int .i64 k ∧ Hid (∀ j, j < k → hasPrefix (s.data.toList.drop j) p.data.toList = false) ∧ w = wr)
  case atStart => exact ⟨0, by omega, rfl, hid fun j hj => absurd hj (by omega), rfl⟩
  case round =>
    obtain ⟨k, hk, rfl, hI, rfl⟩ := hrel
    by_cases hlt : k + p.size ≤ s.size
    · have d1 : decide ((k : Int) + (p.size : Int) ≤ (s.size : Int)) = true := decide_eq_true (by omega)
      have d1N : decide (k + p.size ≤ s.size) = true := decide_eq_true hlt
      have q1 : ((k : Int)).toNat = k := by omega
      have q2 : (0 : Int) ≤ (k : Int) := by omega
      have q3 : (k : Int) ≤ (k : Int) + (p.size : Int) := by omega
      have q4 : (k : Int) + (p.size : Int) ≤ (s.size : Int) := by omega
      have q5 : ((k : Int) + (p.size : Int)).toNat = k + p.size := by omega
      have q6 : (0 : Int) ≤ (k : Int) + (p.size : Int) := by omega
      have q7 : k ≤ k + p.size := by omega
      have hx : ((s.extract k (k + p.size)).toList == p.toList) = hasPrefix (s.data.toList.drop k) p.data.toList := by
        rw [pre_take (by rw [HPL.out, HSL.out]; exact hlt), HPL.out, ext_mid, HPT.out, show k + p.size - k = p.size by omega]
      cases hc : hasPrefix (s.data.toList.drop k) p.data.toList with
      | true =>
        rw [hc] at hx
        have HE := hid (show true = B by rw [← HB.out, has_yes (by have := HSL.out; omega) hc])
        clear hc hI
        go_wp2
        go_ret
        exact ⟨ret_bool' HE.out, rfl⟩
      | false =>
        rw [hc] at hx
        have HN : Hid (∀ j, j < k + 1 → hasPrefix (s.data.toList.drop j) p.data.toList = false) := hid fun j hj => by
          by_cases e : j = k
          · rw [e]; exact hc
          · exact hI.out j (by omega)
        clear hc hI
        go_wp2
        go_roundg (s.size + 1 - (k + 1))
        case measure => omega
        case rel => exact ⟨k + 1, by omega, by go_num, HN, rfl⟩
    · have d1 : decide ((k : Int) + (p.size : Int) ≤ (s.size : Int)) = false := decide_eq_false (by omega)
      have d1N : decide (k + p.size ≤ s.size) = false := decide_eq_false hlt
      have HE := hid (show false = B by
        rw [← HB.out]
        refine (has_no fun j hj => ?_).symm
        by_cases e : j < k
        · exact hI.out j e
        · cases hc : hasPrefix (s.data.toList.drop j) p.data.toList with
          | false => rfl
          | true =>
            have := (List.isPrefixOf_iff_prefix.1 hc).length_le
            rw [List.length_drop, HPL.out, HSL.out] at this
            rw [HSL.out] at hj
            omega)
      clear hI
      go_wp2
      go_ret
      exact ⟨ret_bool' HE.out, rfl⟩
end Go.Proofs.YtinioghpghcdiaaDoor
