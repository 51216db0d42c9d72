/- Walks: utf's endWidth, and the reader of lines: a closure that remembers where it is. -/
import Derived.Test.YtjliphkpmpcjaaaDoorRefNl
import Derived.StillTailTactics
import Derived.IntWalk
import Derived.Deep.RegionWith
namespace Go.Proofs.YtjliphkpmpcjaaaDoor
open Go.RowKit Go.Lib
set_option maxRecDepth 100000
set_option linter.unusedVariables false

theorem endw_at (s : ByteArray) (k : Nat) (hk : k ≤ s.size) (hs : s.size ≤ 4294967296) (w : World) :
    Calls Tryd.prog 40 #[.string (s.extract k s.size)] w fun e w' => e = .returned (.int .i64 (Nl.width (s.data.toList.drop k))) ∧ w' = w := by
  have hz : (s.extract k s.size).size = s.size - k := by rw [size_eq, extract_drop, List.length_drop, size_list]
  cases hv : hasPrefix (s.data.toList.drop k) [13, 10] with
  | true =>
    have hX : Nl.width (s.data.toList.drop k) = 2 := by rw [Nl.width, if_pos hv]
    have HP := hid (hasPrefix_at s ⟨#[13, 10]⟩ k true hv)
    rw [hX]
    clear hX hv hz
    obtain ⟨wo, hwo⟩ : ∃ wo, wo = w := ⟨_, rfl⟩
    rw [← hwo]
    clear hwo
    go_enter Tryd.func40, Tryd.ntmps40
    go_wp2_with fail
    refine (HP.out _).mono ?_
    rintro e w' ⟨rfl, rfl⟩
    go_wp2
    go_ret
    exact ⟨rfl, rfl⟩
  | false =>
    have hX : Nl.width (s.data.toList.drop k) = min 1 (s.size - k) := by rw [Nl.width, if_neg (by rw [hv]; simp), List.length_drop, size_list]
    have HP := hid (hasPrefix_at s ⟨#[13, 10]⟩ k false hv)
    rw [hX]
    clear hX hv
    generalize s.extract k s.size = t at *
    go_enter Tryd.func40, Tryd.ntmps40
    go_wp2_with fail
    refine (HP.out _).mono ?_
    rintro e w' ⟨rfl, rfl⟩
    go_wp2
    go_ret
    exact ⟨ret_int (by omega), rfl⟩

def atOf (w : World) (b : Nat) : Nat := match w.cell? ⟨b, 0, none⟩ with
  | some (.int _ n) => n.toNat
  | _ => 0

theorem grown_set {w wr : World} {b : Nat} (h : w.grownBy wr (some b)) (v : Value) : w.grownBy (wr.setCell ⟨b, 0, none⟩ v) (some b) :=
  ⟨h.os, h.tape, h.output, Nat.le_trans h.size (by simp), fun k hk hne => by
    rw [Below.heap_setCell _ _ _ _ (fun e => hne (by rw [e]))]
    exact h.block k hk hne⟩
theorem grown_refl (w : World) (row : Option Nat) : w.grownBy w row := ⟨rfl, rfl, rfl, Nat.le_refl _, fun _ _ _ => rfl⟩
theorem grown_trans {a b c : World} {row : Option Nat} (h : a.grownBy b row) (k : b.grownBy c row) : a.grownBy c row :=
  ⟨k.os.trans h.os, k.tape.trans h.tape, k.output.trans h.output, Nat.le_trans h.size k.size, fun i hi hne => (k.block i (Nat.lt_of_lt_of_le hi h.size) hne).trans (h.block i hi hne)⟩
theorem grown_drewN {w wr : World} {row : Option Nat} (h : w.grownBy wr row) (n : Nat) : w.grownBy (wr.drewN n) row := grown_trans h ⟨rfl, rfl, rfl, Nat.le_refl _, fun _ _ _ => rfl⟩

/-- Up to here no end of a line. -/
def NoEnd (l : List UInt8) (k m : Nat) : Prop := ∀ i, k ≤ i → i < m → U8.B l i ≠ 10 ∧ U8.B l i ≠ 13

/-- What the reader leaves. -/
def Read (s : ByteArray) (k ba : Nat) (w : World) (e : Ending) (w' : World) : Prop :=
  e = .returned (.tuple #[.string ⟨(Nl.lineOf (s.data.toList.drop k)).toArray⟩, .bool (decide (Nl.restOf (s.data.toList.drop k) ≠ [])), .bool (decide (k < s.size))]) ∧
  w'.heap[ba]? = some (.cells #[.int .i64 ((k + (Nl.lineOf (s.data.toList.drop k)).length + Nl.width (Nl.restOf (s.data.toList.drop k)) : Nat) : Int)] 3 (0, 0)) ∧ w.grownBy w' (some ba)

set_option maxHeartbeats 1000000 in
theorem reader_any (s : ByteArray) (k ba bs : Nat) (w : World) (hs : s.size ≤ 4294967296) (hk : k ≤ s.size) (ha : w.heap[ba]? = some (.cells #[.int .i64 (k : Int)] 3 (0, 0))) (hb : w.heap[bs]? = some (.cells #[.string s] 9 (0, 0))) (hne : bs ≠ ba) :
    Calls Tryd.prog 39 #[.pointer (some ⟨ba, 0, none⟩), .pointer (some ⟨bs, 0, none⟩)] w (Read s k ba w) := by
  have hbl := lt_of_block hb
  have hal := lt_of_block ha
  have cA0 := cell_of_one ha
  have HB := hid hb; have HA := hid ha
  clear hb ha
  go_enter Tryd.func39, Tryd.ntmps39
  go_wp2
  go_loopw [] (fun wr => ∃ m : Nat, k ≤ m ∧ m ≤ s.size ∧ Hid (wr.heap[ba]? = some (.cells #[.int .i64 (m : Int)] 3 (0, 0))) ∧ w.grownBy wr (some ba) ∧ Hid (NoEnd s.data.toList k m)) (fun wr => s.size - atOf wr ba)
  case atStart => exact ⟨k, Nat.le_refl _, hk, HA, grown_refl _ _, hid fun i h1 h2 => by omega⟩
  case round =>
    obtain ⟨m, hkm, hms, hA, hg, hN⟩ := hrel
    have cA := cell_of_one hA.out
    have fA := free_of_one hA.out
    have cS := cell_of_one ((hg.block bs hbl (by simp [hne])).trans HB.out)
    have hat : atOf wr ba = m := by unfold atOf; rw [cA]; rfl
    have HAT := hid hat
    clear hat
    by_cases hgo : ∃ hlt : m < s.size, s[m]'hlt ≠ 10 ∧ s[m]'hlt ≠ 13
    · obtain ⟨hlt, h1, h2⟩ := hgo
      have hd : decide ((m : Int) < (s.size : Int)) = true := by simp; omega
      obtain ⟨x, hx⟩ : ∃ x, s[m]'hlt = x := ⟨_, rfl⟩
      rw [hx] at h1 h2
      have hB := get_of s m hlt
      rw [hx] at hB
      have HX := hid hB
      clear hB
      have t1 : ((x.toNat : Int) != 10) = true := by
        rw [bne_iff_ne]; intro e; exact h1 (UInt8.toNat_inj.1 (by show x.toNat = 10; omega))
      have t2 : ((x.toNat : Int) != 13) = true := by
        rw [bne_iff_ne]; intro e; exact h2 (UInt8.toNat_inj.1 (by show x.toNat = 13; omega))
      have hN2 : Hid (NoEnd s.data.toList k (m + 1)) := hid fun i i1 i2 => by
        by_cases hi : i < m
        · exact hN.out i i1 hi
        · obtain rfl : i = m := by omega
          rw [← HX.out]
          exact ⟨fun e => h1 (UInt8.toNat_inj.1 e), fun e => h2 (UInt8.toNat_inj.1 e)⟩
      have hA2 := hid (one_setCell (u := .int .i64 ((m : Int) + 1)) hA.out)
      have hg2 := grown_set hg (.int .i64 ((m : Int) + 1))
      have hat2 : atOf (wr.setCell ⟨ba, 0, none⟩ (.int .i64 ((m : Int) + 1))) ba = m + 1 := by unfold atOf; rw [cell_of_one hA2.out]; simp
      have HAT2 := hid hat2
      clear hat2 hg h1 h2 hN
      go_wp2
      go_roundw
      case rel => exact ⟨m + 1, by omega, by omega, hid (by rw [hA2.out]; rfl), hg2, hN2⟩
      case measure => rw [HAT2.out, HAT.out]; omega
    · have hst : Hid (m = s.size ∨ U8.B s.data.toList m = 10 ∨ U8.B s.data.toList m = 13) := hid (by
        by_cases hlt : m < s.size
        · right
          by_cases h10 : s[m]'hlt = 10
          · left; rw [← get_of s m hlt, h10]; rfl
          · right
            by_cases h13 : s[m]'hlt = 13
            · rw [← get_of s m hlt, h13]; rfl
            · exact absurd ⟨hlt, h10, h13⟩ hgo
        · left; omega)
      obtain ⟨D, hD0⟩ : ∃ D, decide (m < s.size) = D := ⟨_, rfl⟩
      have hdI : decide ((m : Int) < (s.size : Int)) = D := by rw [← hD0, decide_eq_decide]; omega
      have hD := hid hD0
      clear hD0
      rcases (show (¬ m < s.size) ∨ (∃ hlt : m < s.size, s[m]'hlt = 10) ∨ (∃ hlt : m < s.size, s[m]'hlt = 13) from by
        by_cases hlt : m < s.size
        · right
          by_cases h10 : s[m]'hlt = 10
          · exact .inl ⟨hlt, h10⟩
          · right
            by_cases h13 : s[m]'hlt = 13
            · exact ⟨hlt, h13⟩
            · exact absurd ⟨hlt, h10, h13⟩ hgo
        · exact .inl hlt) with hx | ⟨hlt, hx⟩ | ⟨hlt, hx⟩
      · obtain rfl : D = false := by rw [← hD.out]; simp; omega
        clear hgo

        have hst2 := Nl.lineOf_is (s.data.toList.drop k) (m - k) (by rw [List.length_drop, size_list]; omega) (fun i hi => by rw [U8.B_drop]; exact hN.out (k + i) (by omega) (by omega)) (by
          rcases hst.out with h | h
          · left; rw [List.length_drop, size_list]; omega
          · right; rw [U8.B_drop, show k + (m - k) = m by omega]; exact h)
        have hmI : (m : Int) ≤ (s.size : Int) := by omega
        have hkmI : (k : Int) ≤ (m : Int) := by omega
        have hrest : Nl.restOf (s.data.toList.drop k) = s.data.toList.drop m := by rw [Nl.restOf_drop, hst2, List.drop_drop, show k + (m - k) = m by omega]
        have hline : s.extract k m = ⟨(Nl.lineOf (s.data.toList.drop k)).toArray⟩ := by rw [extract_eq, Nl.lineOf_take, hst2]
        have hwl := Nl.width_le (s.data.toList.drop m)
        have hwp := Nl.width_pos (s.data.toList.drop m)
        rw [List.length_drop, size_list] at hwl
        have HE0 := endw_at s m hms hs
        obtain ⟨wd, hwd⟩ : ∃ wd, Nl.width (s.data.toList.drop m) = wd := ⟨_, rfl⟩
        rw [hwd] at HE0 hwl hwp
        have hok : decide ((k : Int) < (m : Int) + (wd : Int)) = decide (k < s.size) := by
          rw [decide_eq_decide]
          by_cases h : m < s.size
          · have := hwp (U8.drop_ne (by rw [size_list]; exact h))
            omega
          · omega
        have hend : decide (m < s.size) = decide (Nl.restOf (s.data.toList.drop k) ≠ []) := by
          rw [hrest, decide_eq_decide]
          constructor
          · intro h; exact U8.drop_ne (by rw [size_list]; exact h)
          · intro h
            rcases Nat.lt_or_ge m s.size with h' | h'
            · exact h'
            · exact absurd (List.drop_of_length_le (by rw [size_list]; exact h')) h
        have hval : k + (Nl.lineOf (s.data.toList.drop k)).length + Nl.width (Nl.restOf (s.data.toList.drop k)) = m + wd := by rw [hst2, hrest, hwd]; omega
        obtain ⟨OK, hOK⟩ : ∃ OK, decide (k < s.size) = OK := ⟨_, rfl⟩
        rw [hOK] at hok
        have HE := hid HE0
        have HL := hid hline; have HEN := hid hend; have HV := hid hval; have HOK := hid hOK
        clear HE0 hline hend hval hOK hrest hst2 hwd hwp
        go_wp2
        go_quiet (fail)
        go_wp2
        refine wp_region_still_tail 6 (by kernel_rfl) (by kernel_rfl) ?_
        simp only [List.take_succ_cons, List.take_zero, List.drop_succ_cons, List.drop_zero]
        change wpStill _ _ (wr.drewN nq).drew (fun a' => wpList _ _ _ _ a' (wr.drewN nq).drew) _ _
        have cA2 : (wr.drewN nq).drew.cell? ⟨ba, 0, none⟩ = some (.int .i64 (m : Int)) := cA
        have cS2 : (wr.drewN nq).drew.cell? ⟨bs, 0, none⟩ = some (.string s) := cS
        have fA2 : (wr.drewN nq).drew.frozen? ⟨ba, 0, none⟩ = false := fA
        have hA2 : Hid ((wr.drewN nq).drew.heap[ba]? = some (.cells #[.int .i64 (m : Int)] 3 (0, 0))) := hA
        have hg2 : w.grownBy (wr.drewN nq).drew (some ba) := grown_trans hg ⟨rfl, rfl, rfl, Nat.le_refl _, fun _ _ _ => rfl⟩
        clear cA fA hA hg cS
        generalize (wr.drewN nq).drew = W2 at *
        have hsum : IntKind.i64.wrap ((m : Int) + (wd : Int)) = (m : Int) + (wd : Int) := IntWalk.i64_in _ (by omega)
        repeat still_step
        still_call (HE.out _)
        repeat still_step
        refine wpStill_nil ?_
        clear hsum cS2
        go_wp2
        go_quiet (fail)
        go_wp2
        go_ret3
        refine ⟨?_, ?_, ?_⟩
        · rw [← HL.out, ← HEN.out, HOK.out, hD.out]; rfl
        · rw [HV.out]
          have := one_setCell (u := .int .i64 ((m : Int) + (wd : Int))) hA2.out
          simpa using this
        · exact grown_drewN (grown_set hg2 _) _
      · obtain rfl : D = true := by rw [← hD.out]; simp; omega
        clear hgo
        obtain ⟨x, hx2⟩ : ∃ x, s[m]'hlt = x := ⟨_, rfl⟩
        have t1 : ((x.toNat : Int) != 10) = false := by rw [← hx2, hx]; rfl
        clear hx

        have hst2 := Nl.lineOf_is (s.data.toList.drop k) (m - k) (by rw [List.length_drop, size_list]; omega) (fun i hi => by rw [U8.B_drop]; exact hN.out (k + i) (by omega) (by omega)) (by
          rcases hst.out with h | h
          · left; rw [List.length_drop, size_list]; omega
          · right; rw [U8.B_drop, show k + (m - k) = m by omega]; exact h)
        have hmI : (m : Int) ≤ (s.size : Int) := by omega
        have hkmI : (k : Int) ≤ (m : Int) := by omega
        have hrest : Nl.restOf (s.data.toList.drop k) = s.data.toList.drop m := by rw [Nl.restOf_drop, hst2, List.drop_drop, show k + (m - k) = m by omega]
        have hline : s.extract k m = ⟨(Nl.lineOf (s.data.toList.drop k)).toArray⟩ := by rw [extract_eq, Nl.lineOf_take, hst2]
        have hwl := Nl.width_le (s.data.toList.drop m)
        have hwp := Nl.width_pos (s.data.toList.drop m)
        rw [List.length_drop, size_list] at hwl
        have HE0 := endw_at s m hms hs
        obtain ⟨wd, hwd⟩ : ∃ wd, Nl.width (s.data.toList.drop m) = wd := ⟨_, rfl⟩
        rw [hwd] at HE0 hwl hwp
        have hok : decide ((k : Int) < (m : Int) + (wd : Int)) = decide (k < s.size) := by
          rw [decide_eq_decide]
          by_cases h : m < s.size
          · have := hwp (U8.drop_ne (by rw [size_list]; exact h))
            omega
          · omega
        have hend : decide (m < s.size) = decide (Nl.restOf (s.data.toList.drop k) ≠ []) := by
          rw [hrest, decide_eq_decide]
          constructor
          · intro h; exact U8.drop_ne (by rw [size_list]; exact h)
          · intro h
            rcases Nat.lt_or_ge m s.size with h' | h'
            · exact h'
            · exact absurd (List.drop_of_length_le (by rw [size_list]; exact h')) h
        have hval : k + (Nl.lineOf (s.data.toList.drop k)).length + Nl.width (Nl.restOf (s.data.toList.drop k)) = m + wd := by rw [hst2, hrest, hwd]; omega
        obtain ⟨OK, hOK⟩ : ∃ OK, decide (k < s.size) = OK := ⟨_, rfl⟩
        rw [hOK] at hok
        have HE := hid HE0
        have HL := hid hline; have HEN := hid hend; have HV := hid hval; have HOK := hid hOK
        clear HE0 hline hend hval hOK hrest hst2 hwd hwp
        go_wp2
        go_quiet (fail)
        go_wp2
        refine wp_region_still_tail 6 (by kernel_rfl) (by kernel_rfl) ?_
        simp only [List.take_succ_cons, List.take_zero, List.drop_succ_cons, List.drop_zero]
        change wpStill _ _ (wr.drewN nq).drew (fun a' => wpList _ _ _ _ a' (wr.drewN nq).drew) _ _
        have cA2 : (wr.drewN nq).drew.cell? ⟨ba, 0, none⟩ = some (.int .i64 (m : Int)) := cA
        have cS2 : (wr.drewN nq).drew.cell? ⟨bs, 0, none⟩ = some (.string s) := cS
        have fA2 : (wr.drewN nq).drew.frozen? ⟨ba, 0, none⟩ = false := fA
        have hA2 : Hid ((wr.drewN nq).drew.heap[ba]? = some (.cells #[.int .i64 (m : Int)] 3 (0, 0))) := hA
        have hg2 : w.grownBy (wr.drewN nq).drew (some ba) := grown_trans hg ⟨rfl, rfl, rfl, Nat.le_refl _, fun _ _ _ => rfl⟩
        clear cA fA hA hg cS
        generalize (wr.drewN nq).drew = W2 at *
        have hsum : IntKind.i64.wrap ((m : Int) + (wd : Int)) = (m : Int) + (wd : Int) := IntWalk.i64_in _ (by omega)
        repeat still_step
        still_call (HE.out _)
        repeat still_step
        refine wpStill_nil ?_
        clear hsum cS2
        go_wp2
        go_quiet (fail)
        go_wp2
        go_ret3
        refine ⟨?_, ?_, ?_⟩
        · rw [← HL.out, ← HEN.out, HOK.out, hD.out]; rfl
        · rw [HV.out]
          have := one_setCell (u := .int .i64 ((m : Int) + (wd : Int))) hA2.out
          simpa using this
        · exact grown_drewN (grown_set hg2 _) _
      · obtain rfl : D = true := by rw [← hD.out]; simp; omega
        clear hgo
        obtain ⟨x, hx2⟩ : ∃ x, s[m]'hlt = x := ⟨_, rfl⟩
        have t1 : ((x.toNat : Int) != 10) = true := by rw [← hx2, hx]; rfl
        have t2 : ((x.toNat : Int) != 13) = false := by rw [← hx2, hx]; rfl
        clear hx

        have hst2 := Nl.lineOf_is (s.data.toList.drop k) (m - k) (by rw [List.length_drop, size_list]; omega) (fun i hi => by rw [U8.B_drop]; exact hN.out (k + i) (by omega) (by omega)) (by
          rcases hst.out with h | h
          · left; rw [List.length_drop, size_list]; omega
          · right; rw [U8.B_drop, show k + (m - k) = m by omega]; exact h)
        have hmI : (m : Int) ≤ (s.size : Int) := by omega
        have hkmI : (k : Int) ≤ (m : Int) := by omega
        have hrest : Nl.restOf (s.data.toList.drop k) = s.data.toList.drop m := by rw [Nl.restOf_drop, hst2, List.drop_drop, show k + (m - k) = m by omega]
        have hline : s.extract k m = ⟨(Nl.lineOf (s.data.toList.drop k)).toArray⟩ := by rw [extract_eq, Nl.lineOf_take, hst2]
        have hwl := Nl.width_le (s.data.toList.drop m)
        have hwp := Nl.width_pos (s.data.toList.drop m)
        rw [List.length_drop, size_list] at hwl
        have HE0 := endw_at s m hms hs
        obtain ⟨wd, hwd⟩ : ∃ wd, Nl.width (s.data.toList.drop m) = wd := ⟨_, rfl⟩
        rw [hwd] at HE0 hwl hwp
        have hok : decide ((k : Int) < (m : Int) + (wd : Int)) = decide (k < s.size) := by
          rw [decide_eq_decide]
          by_cases h : m < s.size
          · have := hwp (U8.drop_ne (by rw [size_list]; exact h))
            omega
          · omega
        have hend : decide (m < s.size) = decide (Nl.restOf (s.data.toList.drop k) ≠ []) := by
          rw [hrest, decide_eq_decide]
          constructor
          · intro h; exact U8.drop_ne (by rw [size_list]; exact h)
          · intro h
            rcases Nat.lt_or_ge m s.size with h' | h'
            · exact h'
            · exact absurd (List.drop_of_length_le (by rw [size_list]; exact h')) h
        have hval : k + (Nl.lineOf (s.data.toList.drop k)).length + Nl.width (Nl.restOf (s.data.toList.drop k)) = m + wd := by rw [hst2, hrest, hwd]; omega
        obtain ⟨OK, hOK⟩ : ∃ OK, decide (k < s.size) = OK := ⟨_, rfl⟩
        rw [hOK] at hok
        have HE := hid HE0
        have HL := hid hline; have HEN := hid hend; have HV := hid hval; have HOK := hid hOK
        clear HE0 hline hend hval hOK hrest hst2 hwd hwp
        go_wp2
        go_quiet (fail)
        go_wp2
        refine wp_region_still_tail 6 (by kernel_rfl) (by kernel_rfl) ?_
        simp only [List.take_succ_cons, List.take_zero, List.drop_succ_cons, List.drop_zero]
        change wpStill _ _ (wr.drewN nq).drew (fun a' => wpList _ _ _ _ a' (wr.drewN nq).drew) _ _
        have cA2 : (wr.drewN nq).drew.cell? ⟨ba, 0, none⟩ = some (.int .i64 (m : Int)) := cA
        have cS2 : (wr.drewN nq).drew.cell? ⟨bs, 0, none⟩ = some (.string s) := cS
        have fA2 : (wr.drewN nq).drew.frozen? ⟨ba, 0, none⟩ = false := fA
        have hA2 : Hid ((wr.drewN nq).drew.heap[ba]? = some (.cells #[.int .i64 (m : Int)] 3 (0, 0))) := hA
        have hg2 : w.grownBy (wr.drewN nq).drew (some ba) := grown_trans hg ⟨rfl, rfl, rfl, Nat.le_refl _, fun _ _ _ => rfl⟩
        clear cA fA hA hg cS
        generalize (wr.drewN nq).drew = W2 at *
        have hsum : IntKind.i64.wrap ((m : Int) + (wd : Int)) = (m : Int) + (wd : Int) := IntWalk.i64_in _ (by omega)
        repeat still_step
        still_call (HE.out _)
        repeat still_step
        refine wpStill_nil ?_
        clear hsum cS2
        go_wp2
        go_quiet (fail)
        go_wp2
        go_ret3
        refine ⟨?_, ?_, ?_⟩
        · rw [← HL.out, ← HEN.out, HOK.out, hD.out]; rfl
        · rw [HV.out]
          have := one_setCell (u := .int .i64 ((m : Int) + (wd : Int))) hA2.out
          simpa using this
        · exact grown_drewN (grown_set hg2 _) _
end Go.Proofs.YtjliphkpmpcjaaaDoor
