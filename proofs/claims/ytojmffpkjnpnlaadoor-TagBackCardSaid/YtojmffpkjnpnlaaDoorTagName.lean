/- Walks: what the statement TagBack writes: names, and values between quotes. -/
import Derived.Test.YtojmffpkjnpnlaaDoorTagBack
import Derived.Test.YtojmffpkjnpnlaaDoorPairs
import Derived.Test.YtojmffpkjnpnlaaDoorRefTagP
import Derived.Deep.LoopGhost
import Derived.IntWalk
namespace Go.Proofs.YtojmffpkjnpnlaaDoor
open Go.RowKit Go.Lib
set_option maxRecDepth 100000
set_option linter.unusedVariables false

theorem bs_cat (a b : List UInt8) : bs a ++ bs b = bs (a ++ b) := by
  apply ByteArray.ext
  apply Array.ext'
  rw [ByteArray.data_append]
  simp [bs]
theorem bs_size (l : List UInt8) : (bs l).size = l.length := by rw [size_eq]; rfl
theorem bs_ext {x y : ByteArray} (h : x.data.toList = y.data.toList) : x = y := by
  apply ByteArray.ext
  apply Array.ext'
  exact h
theorem one_bs (s : ByteArray) (k : Nat) (hk : k < s.size) : s.extract k (k + 1) = bs [s[k]'hk] := by
  apply bs_ext
  rw [extract_data]
  show (s.data.toList.drop k).take (k + 1 - k) = [s[k]'hk]
  rw [List.drop_eq_getElem_cons (by rw [size_list]; exact hk), show k + 1 - k = 1 by omega]
  rfl
set_option maxHeartbeats 2000000 in
theorem quoted_any (s : ByteArray) (w : World) (hs : s.size ≤ 100000) :
    Calls Tryd.prog 15 #[.string s] w fun e w' => e = .returned (.string (bs ([34] ++ Tag.escq s.data.toList ++ [34]))) ∧ w = w' := by
  have HL := hid (at_list s)
  have HZ := hid (size_list s)
  have HO := hid (one_bs s)
  obtain ⟨l, hl⟩ : ∃ l, s.data.toList = l := ⟨_, rfl⟩
  rw [hl] at HL HZ ⊢
  clear hl
  obtain ⟨R, hR⟩ : ∃ R, bs ([34] ++ Tag.escq l ++ [34]) = R := ⟨_, rfl⟩
  rw [hR]
  have HR := hid hR
  clear hR
  go_enter Tryd.func15, Tryd.ntmps15
  go_wp2
  go_loopg [3, 4] s.size (fun g ov iv wr => ∃ (k : Nat) (O : ByteArray), k + g = s.size ∧ iv = .int .i64 k ∧ ov = .string O ∧ Hid (O = bs (Tag.escq (l.take k))) ∧ w = wr)
  case atStart => exact ⟨0, ⟨#[]⟩, by omega, rfl, rfl, hid rfl, rfl⟩
  case round =>
    obtain ⟨k, O, hk, rfl, rfl, hO, rfl⟩ := hrel
    have hOs : O.size ≤ 600000 := by
      rw [hO.out, bs_size]
      have h1 := Tag.escq_le (l.take k)
      rw [List.length_take] at h1
      omega
    have hOsI : (O.size : Int) ≤ 600000 := by omega
    by_cases hlt : k < s.size
    · have d1 : decide (k < s.size) = true := decide_eq_true hlt
      have hltI : (k : Int) < (s.size : Int) := by omega
      have hat := HL.out k hlt
      have hone := HO.out k hlt
      obtain ⟨c, hc⟩ : ∃ c, s[k]'hlt = c := ⟨_, rfl⟩
      rw [hc] at hat hone
      have hc256 := c.toNat_lt
      have hstep : ∀ z, bs (Tag.escq [c]) = z → O ++ z = bs (Tag.escq (l.take (k + 1))) := fun z hz => by
        rw [hO.out, ← hz, bs_cat, ← Tag.escq_append, List.take_add_one, hat]
        rfl
      have q1 : ((k : Int)).toNat = k := by omega
      have q2 : ((k : Int) + 1).toNat = k + 1 := by omega
      have q3 : (k : Int) ≤ (k : Int) + 1 := by omega
      have q4 : (k : Int) + 1 ≤ (s.size : Int) := by omega
      have q5 : (0 : Int) ≤ (k : Int) + 1 := by omega
      by_cases h38 : c.toNat = 38
      · have b1 : (((c.toNat : Nat) : Int) == 38) = true := by simp [h38]
        have hc38 : c = 38 := UInt8.toNat_inj.1 h38
        have HN := hid (hstep ⟨#[38, 97, 109, 112, 59]⟩ (by rw [hc38]; rfl))
        clear hat hone hstep hO
        go_wp2
        go_roundg (s.size - (k + 1))
        case measure => omega
        case rel => exact ⟨k + 1, _, by omega, by go_num, rfl, HN, rfl⟩
      have b1 : (((c.toNat : Nat) : Int) == 38) = false := by simp; omega
      by_cases h34 : c.toNat = 34
      · have b2 : (((c.toNat : Nat) : Int) == 34) = true := by simp [h34]
        have hc34 : c = 34 := UInt8.toNat_inj.1 h34
        have HN := hid (hstep ⟨#[38, 113, 117, 111, 116, 59]⟩ (by rw [hc34]; rfl))
        clear hat hone hstep hO
        go_wp2
        go_roundg (s.size - (k + 1))
        case measure => omega
        case rel => exact ⟨k + 1, _, by omega, by go_num, rfl, HN, rfl⟩
      have b2 : (((c.toNat : Nat) : Int) == 34) = false := by simp; omega
      have HN := hid (hstep (s.extract k (k + 1)) (by
        rw [hone]
        have n1 : c ≠ 38 := fun e => h38 (by rw [e]; rfl)
        have n2 : c ≠ 34 := fun e => h34 (by rw [e]; rfl)
        simp [Tag.escq, n1, n2]))
      clear hat hone hstep hO
      go_wp2
      go_roundg (s.size - (k + 1))
      case measure => omega
      case rel => exact ⟨k + 1, _, by omega, by go_num, rfl, HN, rfl⟩
    · have d1 : decide (k < s.size) = false := decide_eq_false hlt
      have hltI : ¬ (k : Int) < (s.size : Int) := by omega
      have HN := hid (show (⟨#[34]⟩ : ByteArray) ++ O ++ ⟨#[34]⟩ = R by
        rw [← HR.out, hO.out, List.take_of_length_le (by rw [HZ.out]; omega), show (⟨#[34]⟩ : ByteArray) = bs [34] from rfl, bs_cat, bs_cat])
      clear hO
      go_wp2
      go_ret
      exact ⟨by rw [← HN.out]; rfl, rfl⟩
set_option maxHeartbeats 2000000 in
theorem name_any (s : ByteArray) (i : Nat) (w : World) (hs : s.size ≤ 100000) (hi : i ≤ 1000) :
    Calls Tryd.prog 14 #[.string s, .int .i64 i] w fun e w' => e = .returned (.string (bs (Tag.nameP s.data.toList i))) ∧ Below w.heap.size w w' := by
  have HL := hid (at_list s)
  have HZ := hid (size_list s)
  have HO := hid (one_bs s)
  obtain ⟨l, hl⟩ : ∃ l, s.data.toList = l := ⟨_, rfl⟩
  rw [hl] at HL HZ ⊢
  clear hl
  obtain ⟨A, hA⟩ : ∃ A : UInt8, UInt8.ofNat (97 + i % 26) = A := ⟨_, rfl⟩
  obtain ⟨B, hB⟩ : ∃ B : UInt8, UInt8.ofNat (97 + i / 26 % 26) = B := ⟨_, rfl⟩
  have hA2 : ((A.toNat : Nat) : Int) = 97 + (i : Int) % 26 := by
    rw [← hA, (Tag.ofNat_small _ (Nat.mod_lt i (by omega))).2]
    omega
  have hB2 : ((B.toNat : Nat) : Int) = 97 + (i : Int) / 26 % 26 := by
    rw [← hB, (Tag.ofNat_small _ (Nat.mod_lt (i / 26) (by omega))).2]
    omega
  have hI : IsB (w.alloc (.cells #[.int .u8 (97 + (i : Int) % 26), .int .u8 (97 + (i : Int) / 26 % 26)] 5)) (some ⟨w.heap.size, 0, none⟩) 2 [A, B] :=
    ⟨rfl, .inr ⟨w.heap.size, 0, rfl, by
      have h := new_bytes w [A, B] #[.int .u8 (97 + (i : Int) % 26), .int .u8 (97 + (i : Int) / 26 % 26)] (0, 0) (by rw [← hA2, ← hB2]; rfl)
      intro j hj
      have := h j hj
      rw [addr_add, Nat.zero_add] at this
      rw [Nat.zero_add]
      exact this⟩⟩
  have hcv := conv_bytes hI 2
  have hb0 := (Below.refl w.heap.size w).alloc (Nat.le_refl _) (.cells #[.int .u8 (97 + (i : Int) % 26), .int .u8 (97 + (i : Int) / 26 % 26)] 5)
  have HNM : Hid (∀ l, Tag.nameP l i = [A, B] ++ (l.take 20).filter Tag.smallB) := hid fun l => by unfold Tag.nameP; rw [hA, hB]
  have HB0 := hid hb0
  obtain ⟨AB, hAB⟩ : ∃ AB : ByteArray, (⟨[A, B].toArray⟩ : ByteArray) = AB := ⟨_, rfl⟩
  rw [hAB] at hcv
  have HAB := hid (show AB = bs [A, B] from hAB.symm)
  obtain ⟨R, hR⟩ : ∃ R, bs (Tag.nameP l i) = R := ⟨_, rfl⟩
  rw [hR]
  have HR := hid hR
  clear hA hB hA2 hB2 hI hb0 hAB hR
  go_enter Tryd.func14, Tryd.ntmps14
  go_wp2
  generalize w.alloc (.cells #[.int .u8 (97 + (i : Int) % 26), .int .u8 (97 + (i : Int) / 26 % 26)] 5) = W1 at *
  clear hcv
  go_loopg [5, 6] s.size (fun g ov iv wr => ∃ (k : Nat) (O : ByteArray), k + g = s.size ∧ k ≤ 20 ∧ iv = .int .i64 k ∧ ov = .string O ∧ Hid (O = bs ([A, B] ++ (l.take k).filter Tag.smallB)) ∧ W1 = wr)
  case atStart => exact ⟨0, AB, by omega, by omega, rfl, rfl, hid (by rw [HAB.out]; rfl), rfl⟩
  case round =>
    obtain ⟨k, O, hk, hk20, rfl, rfl, hO, rfl⟩ := hrel
    have hOs : O.size ≤ 600000 := by
      rw [hO.out, bs_size, List.length_append]
      have h1 := List.length_filter_le Tag.smallB (l.take k)
      rw [List.length_take] at h1
      simp only [List.length_cons, List.length_nil]
      omega
    have hOsI : (O.size : Int) ≤ 600000 := by omega
    by_cases hlt : k < s.size
    · have d1 : decide (k < s.size) = true := decide_eq_true hlt
      have hltI : (k : Int) < (s.size : Int) := by omega
      by_cases h20 : k < 20
      · have d2 : decide ((k : Int) < 20) = true := decide_eq_true (by omega)
        have d2N : decide (k < 20) = true := decide_eq_true h20
        have hat := HL.out k hlt
        have hone := HO.out k hlt
        obtain ⟨c, hc⟩ : ∃ c, s[k]'hlt = c := ⟨_, rfl⟩
        rw [hc] at hat hone
        have hc256 := c.toNat_lt
        have q1 : ((k : Int)).toNat = k := by omega
        have q2 : ((k : Int) + 1).toNat = k + 1 := by omega
        have q3 : (k : Int) ≤ (k : Int) + 1 := by omega
        have q4 : (k : Int) + 1 ≤ (s.size : Int) := by omega
        have q5 : (0 : Int) ≤ (k : Int) + 1 := by omega
        by_cases h97 : 97 ≤ c.toNat
        · have b1 : decide ((97 : Int) ≤ ((c.toNat : Nat) : Int)) = true := decide_eq_true (by omega)
          have b1N : decide (97 ≤ c.toNat) = true := decide_eq_true h97
          by_cases h122 : c.toNat ≤ 122
          · have b2 : decide (((c.toNat : Nat) : Int) ≤ 122) = true := decide_eq_true (by omega)
            have b2N : decide (c.toNat ≤ 122) = true := decide_eq_true h122
            have hsz : (s.extract k (k + 1)).size = 1 := by rw [hone, bs_size]; rfl
            have HN := hid (show O ++ s.extract k (k + 1) = bs ([A, B] ++ (l.take (k + 1)).filter Tag.smallB) by
              rw [hO.out, hone, bs_cat, List.take_add_one, hat, List.filter_append]
              have : Tag.smallB c = true := by unfold Tag.smallB; exact decide_eq_true ⟨h97, h122⟩
              simp [this])
            clear hat hone hO
            go_wp2
            go_roundg (s.size - (k + 1))
            case measure => omega
            case rel => exact ⟨k + 1, _, by omega, by omega, by go_num, rfl, HN, rfl⟩
          · have b2 : decide (((c.toNat : Nat) : Int) ≤ 122) = false := decide_eq_false (by omega)
            have b2N : decide (c.toNat ≤ 122) = false := decide_eq_false h122
            have HN := hid (show O = bs ([A, B] ++ (l.take (k + 1)).filter Tag.smallB) by
              rw [hO.out, List.take_add_one, hat, List.filter_append]
              have : Tag.smallB c = false := by unfold Tag.smallB; exact decide_eq_false (by omega)
              simp [this])
            clear hat hone hO
            go_wp2
            go_roundg (s.size - (k + 1))
            case measure => omega
            case rel => exact ⟨k + 1, _, by omega, by omega, by go_num, rfl, HN, rfl⟩
        · have b1 : decide ((97 : Int) ≤ ((c.toNat : Nat) : Int)) = false := decide_eq_false (by omega)
          have b1N : decide (97 ≤ c.toNat) = false := decide_eq_false h97
          have HN := hid (show O = bs ([A, B] ++ (l.take (k + 1)).filter Tag.smallB) by
            rw [hO.out, List.take_add_one, hat, List.filter_append]
            have : Tag.smallB c = false := by unfold Tag.smallB; exact decide_eq_false (by omega)
            simp [this])
          clear hat hone hO
          go_wp2
          go_roundg (s.size - (k + 1))
          case measure => omega
          case rel => exact ⟨k + 1, _, by omega, by omega, by go_num, rfl, HN, rfl⟩
      · have d2 : decide ((k : Int) < 20) = false := decide_eq_false (by omega)
        have d2N : decide (k < 20) = false := decide_eq_false h20
        have hk2 : k = 20 := by omega
        have HN := hid (show O = R by rw [← HR.out, HNM.out, hO.out, hk2])
        clear hO hk2
        go_wp2
        go_ret
        exact ⟨by rw [← HN.out]; rfl, HB0.out⟩
    · have d1 : decide (k < s.size) = false := decide_eq_false hlt
      have hltI : ¬ (k : Int) < (s.size : Int) := by omega
      have HN := hid (show O = R by
        rw [← HR.out, HNM.out, hO.out, List.take_of_length_le (show l.length ≤ k by rw [HZ.out]; omega), List.take_of_length_le (show l.length ≤ 20 by rw [HZ.out]; omega)])
      clear hO
      go_wp2
      go_ret
      exact ⟨by rw [← HN.out]; rfl, HB0.out⟩
end Go.Proofs.YtojmffpkjnpnlaaDoor
