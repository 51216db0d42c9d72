/- Walks over the reference of layer 3: the longest name. -/
import Derived.Test.YtlikpmmkfjghbaaDoorRefNames
namespace Go.Proofs.YtlikpmmkfjghbaaDoor
open Go.RowKit Go.Lib Ent
set_option maxRecDepth 100000
set_option linter.unusedVariables false

/-- What the first k rows come to. -/
def accN (l : List UInt8) (k : Nat) : List UInt8 × Nat := (tab.take k).foldl (stepN l) ([], 0)
theorem accN_succ (l : List UInt8) (k : Nat) (h : k < tab.length) : accN l (k + 1) = stepN l (accN l k) tab[k] := fold_take l k h
theorem accN_all (l : List UInt8) : accN l 98 = named l := by
  unfold accN named
  rw [List.take_of_length_le (by rw [tab_size]; exact Nat.le_refl _)]
theorem stepN_le {l : List UInt8} {a : List UInt8 × Nat} {r : Row} (hr : r ∈ tab) (h : a.2 ≤ 8) : (stepN l a r).2 ≤ 8 := by
  have := tab_len r hr
  unfold stepN
  simp only
  repeat' split
  all_goals first | omega | (simp only; omega)
theorem cat_list (X Y : ByteArray) : (X ++ Y).data.toList = X.data.toList ++ Y.data.toList := by
  rw [ByteArray.data_append]; simp
theorem cat_size (X Y : ByteArray) : (X ++ Y).size = X.size + Y.size := by
  rw [size_eq, size_eq, size_eq, cat_list, List.length_append]

set_option maxHeartbeats 4000000 in
theorem rnamed_any (s : ByteArray) (w : World) (hs : s.size ≤ 1000000) :
    Calls Tryd.prog 47 #[.string s] w fun e w' => e = .returned (.tuple #[.string ⟨(named s.data.toList).1.toArray⟩, .int .i64 (named s.data.toList).2]) ∧ Below w.heap.size w w' := by
  go_enter Tryd.func47, Tryd.ntmps47
  go_wp2_with fail
  refine (rnames_any w).mono ?_
  rintro e w1 ⟨g, rfl, hb, hN⟩
  have HB := hid hb
  have HN := hid hN
  clear hb hN
  go_wp2
  go_loop [5, 6, 7] (fun is n i => ∃ k : Nat, k ≤ 98 ∧ i = .int .i64 k ∧ is = .string ⟨(accN s.data.toList k).1.toArray⟩ ∧ n = .int .i64 (accN s.data.toList k).2 ∧ (accN s.data.toList k).2 ≤ 8) (fun _ _ i => 98 - (RowKit.intOf i).toNat)
  case atStart => exact ⟨0, by omega, rfl, rfl, rfl, Nat.zero_le _⟩
  case round =>
    obtain ⟨k, hk, rfl, rfl, rfl, h8⟩ := hrel
    by_cases hlt : k < 98
    · have hr : tab[k]'hlt ∈ tab := List.getElem_mem _
      obtain ⟨c0, c1, c2⟩ := HN.out k hlt
      have hlen := tab_len _ hr
      have hS := accN_succ s.data.toList k hlt
      have hS8 := stepN_le (l := s.data.toList) hr h8
      rw [← hS] at hS8
      generalize tab[k]'hlt = r at *
      obtain ⟨X, hX⟩ : ∃ X : ByteArray, X = ⟨(nm r).toArray⟩ := ⟨_, rfl⟩
      obtain ⟨Y, hY⟩ : ∃ Y : ByteArray, Y = ⟨(isOf r).toArray⟩ := ⟨_, rfl⟩
      have hXl : X.data.toList = nm r := by rw [hX]
      have hXs : X.size = (nm r).length := by rw [size_eq, hXl]
      rw [← hX] at c0
      rw [← hY] at c1
      have HB1 := fun w => rbegins_any s (X ++ ⟨#[59]⟩) w hs (by rw [cat_size]; show X.size + 1 ≤ _; omega)
      have HB2 := fun w => rbegins_any s X w hs (by omega)
      rw [cat_list, hXl] at HB1
      rw [hXl] at HB2
      rw [← hXs] at hlen
      obtain ⟨br, hbr⟩ : ∃ br, bare r = br := ⟨_, rfl⟩
      obtain ⟨b1, hb1⟩ : ∃ b1, (nm r ++ [59]).isPrefixOf s.data.toList = b1 := ⟨_, rfl⟩
      obtain ⟨b2, hb2⟩ : ∃ b2, (nm r).isPrefixOf s.data.toList = b2 := ⟨_, rfl⟩
      rw [show (⟨#[59]⟩ : ByteArray).data.toList = [59] from rfl, hb1] at HB1
      rw [hb2] at HB2
      rw [hbr] at c2
      have hS2 : accN s.data.toList (k + 1) = (fun a : List UInt8 × Nat => if br = true ∧ b2 = true ∧ a.2 < X.size then (isOf r, X.size) else a) (if b1 = true ∧ (accN s.data.toList k).2 < X.size + 1 then (isOf r, X.size + 1) else accN s.data.toList k) := by
        rw [hS]
        unfold stepN
        simp only [hb1, hb2, hbr, hXs]
      have hYi : (⟨(isOf r).toArray⟩ : ByteArray) = Y := hY.symm
      have hlen2 := hlen.2
      have HA := hid hS2
      have HY := hid hYi
      have H8 := hid hS8
      have H1 := hid HB1
      have H2 := hid HB2
      clear hS hS8 hX hY hXl hXs HB1 HB2 hb1 hb2 hbr hS2 hYi hlen hr HN
      obtain ⟨p, hp⟩ : ∃ p, accN s.data.toList k = p := ⟨_, rfl⟩
      obtain ⟨pi, pn⟩ := p
      rw [hp] at HA h8 ⊢
      clear hp
      simp only at HA h8 ⊢
      cases b1 with
      | false =>
        cases br with
        | false =>
          have HF := hid (show accN s.data.toList (k + 1) = (pi, pn) by rw [HA.out]; first | (simp; done) | (simp; omega) | (simp [q1]; done) | (simp [q2]; done) | (simp only [q1]; simp; omega) | (simp [q1]; omega))
          rw [HF.out] at H8
          clear HA
          go_wp2_with fail
          refine (H1.out _).mono ?_
          rintro e w' ⟨rfl, rfl⟩
          go_wp2
          go_round
          case rel => exact ⟨k + 1, by omega, by go_num, by rw [HF.out] <;> rfl, by rw [HF.out] <;> rfl, by rw [HF.out] <;> exact H8.out⟩
          case measure => simp [RowKit.intOf]; omega
        | true =>
          cases b2 with
          | false =>
            have HF := hid (show accN s.data.toList (k + 1) = (pi, pn) by rw [HA.out]; first | (simp; done) | (simp; omega) | (simp [q1]; done) | (simp [q2]; done) | (simp only [q1]; simp; omega) | (simp [q1]; omega))
            rw [HF.out] at H8
            clear HA
            go_wp2_with fail
            refine (H1.out _).mono ?_
            rintro e w' ⟨rfl, rfl⟩
            go_wp2_with fail
            refine (H2.out _).mono ?_
            rintro e w' ⟨rfl, rfl⟩
            go_wp2
            go_round
            case rel => exact ⟨k + 1, by omega, by go_num, by rw [HF.out] <;> rfl, by rw [HF.out] <;> rfl, by rw [HF.out] <;> exact H8.out⟩
            case measure => simp [RowKit.intOf]; omega
          | true =>
            by_cases q2 : pn < X.size
            · have HF := hid (show accN s.data.toList (k + 1) = (isOf r, X.size) by rw [HA.out]; first | (simp; done) | (simp; omega) | (simp [q1]; done) | (simp [q2]; done) | (simp only [q1]; simp; omega) | (simp [q1]; omega))
              rw [HF.out] at H8
              clear HA
              go_wp2_with fail
              refine (H1.out _).mono ?_
              rintro e w' ⟨rfl, rfl⟩
              go_wp2_with fail
              refine (H2.out _).mono ?_
              rintro e w' ⟨rfl, rfl⟩
              go_wp2
              go_round
              case rel => exact ⟨k + 1, by omega, by go_num, by rw [HF.out] <;> exact congrArg Value.string HY.out.symm, by rw [HF.out] <;> rfl, by rw [HF.out] <;> exact H8.out⟩
              case measure => simp [RowKit.intOf]; omega
            · have HF := hid (show accN s.data.toList (k + 1) = (pi, pn) by rw [HA.out]; first | (simp; done) | (simp; omega) | (simp [q1]; done) | (simp [q2]; done) | (simp only [q1]; simp; omega) | (simp [q1]; omega))
              rw [HF.out] at H8
              clear HA
              go_wp2_with fail
              refine (H1.out _).mono ?_
              rintro e w' ⟨rfl, rfl⟩
              go_wp2_with fail
              refine (H2.out _).mono ?_
              rintro e w' ⟨rfl, rfl⟩
              go_wp2
              go_round
              case rel => exact ⟨k + 1, by omega, by go_num, by rw [HF.out] <;> rfl, by rw [HF.out] <;> rfl, by rw [HF.out] <;> exact H8.out⟩
              case measure => simp [RowKit.intOf]; omega
      | true =>
        by_cases q1 : pn < X.size + 1
        · cases br with
          | false =>
            have HF := hid (show accN s.data.toList (k + 1) = (isOf r, X.size + 1) by rw [HA.out]; first | (simp; done) | (simp; omega) | (simp [q1]; done) | (simp [q2]; done) | (simp only [q1]; simp; omega) | (simp [q1]; omega))
            rw [HF.out] at H8
            clear HA
            go_wp2_with fail
            refine (H1.out _).mono ?_
            rintro e w' ⟨rfl, rfl⟩
            go_wp2
            go_round
            case rel => exact ⟨k + 1, by omega, by go_num, by rw [HF.out] <;> exact congrArg Value.string HY.out.symm, by rw [HF.out] <;> rfl, by rw [HF.out] <;> exact H8.out⟩
            case measure => simp [RowKit.intOf]; omega
          | true =>
            cases b2 with
            | false =>
              have HF := hid (show accN s.data.toList (k + 1) = (isOf r, X.size + 1) by rw [HA.out]; first | (simp; done) | (simp; omega) | (simp [q1]; done) | (simp [q2]; done) | (simp only [q1]; simp; omega) | (simp [q1]; omega))
              rw [HF.out] at H8
              clear HA
              go_wp2_with fail
              refine (H1.out _).mono ?_
              rintro e w' ⟨rfl, rfl⟩
              go_wp2_with fail
              refine (H2.out _).mono ?_
              rintro e w' ⟨rfl, rfl⟩
              go_wp2
              go_round
              case rel => exact ⟨k + 1, by omega, by go_num, by rw [HF.out] <;> exact congrArg Value.string HY.out.symm, by rw [HF.out] <;> rfl, by rw [HF.out] <;> exact H8.out⟩
              case measure => simp [RowKit.intOf]; omega
            | true =>
              have HF := hid (show accN s.data.toList (k + 1) = (isOf r, X.size + 1) by rw [HA.out]; first | (simp; done) | (simp; omega) | (simp [q1]; done) | (simp [q2]; done) | (simp only [q1]; simp; omega) | (simp [q1]; omega))
              rw [HF.out] at H8
              clear HA
              go_wp2_with fail
              refine (H1.out _).mono ?_
              rintro e w' ⟨rfl, rfl⟩
              go_wp2_with fail
              refine (H2.out _).mono ?_
              rintro e w' ⟨rfl, rfl⟩
              go_wp2
              go_round
              case rel => exact ⟨k + 1, by omega, by go_num, by rw [HF.out] <;> exact congrArg Value.string HY.out.symm, by rw [HF.out] <;> rfl, by rw [HF.out] <;> exact H8.out⟩
              case measure => simp [RowKit.intOf]; omega
        · have q2 : ¬ pn < X.size := by omega
          cases br with
          | false =>
            have HF := hid (show accN s.data.toList (k + 1) = (pi, pn) by rw [HA.out]; first | (simp; done) | (simp; omega) | (simp [q1]; done) | (simp [q2]; done) | (simp only [q1]; simp; omega) | (simp [q1]; omega))
            rw [HF.out] at H8
            clear HA
            go_wp2_with fail
            refine (H1.out _).mono ?_
            rintro e w' ⟨rfl, rfl⟩
            go_wp2
            go_round
            case rel => exact ⟨k + 1, by omega, by go_num, by rw [HF.out] <;> rfl, by rw [HF.out] <;> rfl, by rw [HF.out] <;> exact H8.out⟩
            case measure => simp [RowKit.intOf]; omega
          | true =>
            cases b2 with
            | false =>
              have HF := hid (show accN s.data.toList (k + 1) = (pi, pn) by rw [HA.out]; first | (simp; done) | (simp; omega) | (simp [q1]; done) | (simp [q2]; done) | (simp only [q1]; simp; omega) | (simp [q1]; omega))
              rw [HF.out] at H8
              clear HA
              go_wp2_with fail
              refine (H1.out _).mono ?_
              rintro e w' ⟨rfl, rfl⟩
              go_wp2_with fail
              refine (H2.out _).mono ?_
              rintro e w' ⟨rfl, rfl⟩
              go_wp2
              go_round
              case rel => exact ⟨k + 1, by omega, by go_num, by rw [HF.out] <;> rfl, by rw [HF.out] <;> rfl, by rw [HF.out] <;> exact H8.out⟩
              case measure => simp [RowKit.intOf]; omega
            | true =>
              have HF := hid (show accN s.data.toList (k + 1) = (pi, pn) by have e1 : (if true = true ∧ pn < X.size + 1 then (isOf r, X.size + 1) else (pi, pn)) = (pi, pn) := if_neg (fun h => q1 h.2); rw [HA.out, e1]; exact if_neg (fun h => q2 h.2.2))
              rw [HF.out] at H8
              clear HA
              go_wp2_with fail
              refine (H1.out _).mono ?_
              rintro e w' ⟨rfl, rfl⟩
              go_wp2_with fail
              refine (H2.out _).mono ?_
              rintro e w' ⟨rfl, rfl⟩
              go_wp2
              go_round
              case rel => exact ⟨k + 1, by omega, by go_num, by rw [HF.out] <;> rfl, by rw [HF.out] <;> rfl, by rw [HF.out] <;> exact H8.out⟩
              case measure => simp [RowKit.intOf]; omega
    · obtain rfl : k = 98 := by omega
      rw [accN_all]
      go_wp2
      go_ret2
      exact ⟨rfl, HB.out⟩
end Go.Proofs.YtlikpmmkfjghbaaDoor
