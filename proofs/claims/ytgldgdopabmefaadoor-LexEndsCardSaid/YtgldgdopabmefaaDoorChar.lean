/- Walks: package ent, the character of a number; what an address goes on with; the sign at an end. -/
import Derived.Test.YtgldgdopabmefaaDoorEntMore
import Derived.Test.YtgldgdopabmefaaDoorLwInv
import Derived.Test.YtgldgdopabmefaaDoorClsByte
import Derived.Test.YtgldgdopabmefaaDoorShelf
namespace Go.Proofs.YtgldgdopabmefaaDoor
open Go.RowKit Go.Lib Ent
set_option maxRecDepth 100000
set_option linter.unusedVariables false

/-- The table of the numbers from 128 to 159. -/
def CtlTab (w : World) : Prop := ∀ j, j < 32 → w.cell? ⟨1, j, none⟩ = some (.int .i32 (ctl.getD j 0 : Nat))
theorem ctl_below {w w' : World} (h : CtlTab w) (hb : Below w.heap.size w w') : CtlTab w' := fun j hj =>
  (hb.cell (p := ⟨1, j, none⟩) (World.block_lt_of_cell? _ _ (h j hj))).trans (h j hj)

theorem character_any (n : Int) (w : World) :
    Calls Tryd.prog 70 #[.int .i64 n] w fun e w' => e = .returned (.int .i32 (charZ n)) ∧ w = w' := by
  rcases (show n ≤ 0 ∨ (0 < n ∧ 1114111 < n) ∨ (0 < n ∧ n ≤ 1114111) by omega) with h | ⟨h1, h2⟩ | ⟨h1, h2⟩
  · have e : charZ n = 65533 := by unfold charZ; rw [show rightI n = false from decide_eq_false (by omega)]; rfl
    rw [e]; clear e
    go_enter Tryd.func70, Tryd.ntmps70
    go_wp2
    go_ret
    exact ⟨rfl, rfl⟩
  · have e : charZ n = 65533 := by unfold charZ; rw [show rightI n = false from decide_eq_false (by omega)]; rfl
    rw [e]; clear e
    go_enter Tryd.func70, Tryd.ntmps70
    go_wp2
    go_ret
    exact ⟨rfl, rfl⟩
  · have HV := hid (Tryd.utf8_ValidRune n w)
    by_cases hr : n < 55296 ∨ 57343 < n
    · have e : charZ n = n := by unfold charZ; rw [show rightI n = true from decide_eq_true (by omega)]; rfl
      rw [e]; clear e
      rw [show Lib.validRune n = true from decide_eq_true (by omega)] at HV
      clear hr
      go_enter Tryd.func70, Tryd.ntmps70
      go_wp2_with fail
      refine HV.out.mono ?_
      rintro e w' ⟨rfl, rfl⟩
      go_wp2
      go_ret
      exact ⟨rfl, rfl⟩
    · have e : charZ n = 65533 := by unfold charZ; rw [show rightI n = false from decide_eq_false (by omega)]; rfl
      rw [e]; clear e
      rw [show Lib.validRune n = false from decide_eq_false (by omega)] at HV
      clear hr
      go_enter Tryd.func70, Tryd.ntmps70
      go_wp2_with fail
      refine HV.out.mono ?_
      rintro e w' ⟨rfl, rfl⟩
      go_wp2
      go_ret
      exact ⟨rfl, rfl⟩

theorem number_any (n : Int) (w : World) (hT : CtlTab w) :
    Calls Tryd.prog 53 #[.int .i64 n] w fun e w' => e = .returned (.int .i32 (numZ n)) ∧ w = w' := by
  rcases (show n < 128 ∨ (128 ≤ n ∧ 160 ≤ n) ∨ (128 ≤ n ∧ n < 160) by omega) with h | ⟨h1, h2⟩ | ⟨h1, h2⟩
  · have e : numZ n = charZ n := by unfold numZ; rw [if_neg (by omega)]
    rw [e]; clear e hT
    have HC := hid (character_any n w)
    go_enter Tryd.func53, Tryd.ntmps53
    go_wp2_with fail
    refine HC.out.mono ?_
    rintro e w' ⟨rfl, rfl⟩
    go_wp2
    go_ret
    exact ⟨rfl, rfl⟩
  · have e : numZ n = charZ n := by unfold numZ; rw [if_neg (by omega)]
    rw [e]; clear e hT
    have HC := hid (character_any n w)
    go_enter Tryd.func53, Tryd.ntmps53
    go_wp2_with fail
    refine HC.out.mono ?_
    rintro e w' ⟨rfl, rfl⟩
    go_wp2
    go_ret
    exact ⟨rfl, rfl⟩
  · have e : numZ n = (ctl.getD (n - 128).toNat 0 : Nat) := by unfold numZ; rw [if_pos ⟨h1, h2⟩]
    rw [e]; clear e
    have hc := hT (n - 128).toNat (by omega)
    obtain ⟨m, hm⟩ : ∃ m, ctl.getD (n - 128).toNat 0 = m := ⟨_, rfl⟩
    rw [hm] at hc ⊢
    have hn0 : 0 ≤ n - 128 := by omega
    have hn1 : n - 128 < 32 := by omega
    clear hT hm
    go_enter Tryd.func53, Tryd.ntmps53
    go_wp2
    go_ret
    exact ⟨rfl, rfl⟩

theorem pre1_eq (s : ByteArray) (c : UInt8) : hasPrefix s.data.toList [c] = decide (0 < s.data.toList.length ∧ U8.B s.data.toList 0 = c.toNat) := by
  unfold hasPrefix
  cases hl : s.data.toList with
  | nil => simp
  | cons a r =>
    rw [Bool.eq_iff_iff]
    simp only [decide_eq_true_eq, List.isPrefixOf_cons_cons, List.isPrefixOf_nil_left, Bool.and_true, beq_iff_eq, List.length_cons]
    have : U8.B (a :: r) 0 = a.toNat := rfl
    rw [this]
    exact ⟨fun e => ⟨by omega, by rw [e]⟩, fun ⟨_, e⟩ => (UInt8.toNat_inj.1 e).symm⟩
theorem semicolon_any (s : ByteArray) (w : World) :
    Calls Tryd.prog 54 #[.string s] w fun e w' => e = .returned (.int .i64 (semiW s.data.toList)) ∧ w = w' := by
  have HP := Tryd.strings_HasPrefix s ⟨#[59]⟩ w
  rw [show (⟨#[59]⟩ : ByteArray).data.toList = [59] from rfl, pre1_eq] at HP
  by_cases h : 0 < s.data.toList.length ∧ U8.B s.data.toList 0 = 59
  · rw [show decide (0 < s.data.toList.length ∧ U8.B s.data.toList 0 = (59 : UInt8).toNat) = true from decide_eq_true h] at HP
    have e : semiW s.data.toList = 1 := by unfold semiW; rw [if_pos h]
    rw [e]
    have HP2 := hid HP
    clear HP h e
    go_enter Tryd.func54, Tryd.ntmps54
    go_wp2_with fail
    refine HP2.out.mono ?_
    rintro e w' ⟨rfl, rfl⟩
    go_wp2
    go_ret
    exact ⟨rfl, rfl⟩
  · rw [show decide (0 < s.data.toList.length ∧ U8.B s.data.toList 0 = (59 : UInt8).toNat) = false from decide_eq_false h] at HP
    have e : semiW s.data.toList = 0 := by unfold semiW; rw [if_neg h]
    rw [e]
    have HP2 := hid HP
    clear HP h e
    go_enter Tryd.func54, Tryd.ntmps54
    go_wp2_with fail
    refine HP2.out.mono ?_
    rintro e w' ⟨rfl, rfl⟩
    go_wp2
    go_ret
    exact ⟨rfl, rfl⟩
theorem goesOn_any (s : ByteArray) (w : World) (hs : s.size ≤ 4294967296) :
    Calls Tryd.prog 56 #[.string s] w fun e w' => e = .returned (.bool (goesOn s.data.toList)) ∧ w = w' := by
  by_cases h0 : s.size = 0
  · have hl : s.data.toList = [] := List.length_eq_zero_iff.1 (by rw [size_list]; exact h0)
    obtain rfl : s = ⟨#[]⟩ := by apply ByteArray.ext; apply Array.ext'; exact hl
    clear hl h0
    go_enter Tryd.func56, Tryd.ntmps56
    go_wp2
    go_ret
    exact ⟨rfl, rfl⟩
  · have hpos : 0 < s.size := by omega
    have hne : s.toList.isEmpty = false := by
      rw [toList_data]
      cases he : s.data.toList with
      | nil => rw [size_eq, he] at hpos; simp at hpos
      | cons a b => rfl
    have hg := get_of s 0 hpos
    obtain ⟨c, hc⟩ : ∃ c, (s[0]'hpos) = c := ⟨_, rfl⟩
    rw [hc] at hg
    have hlt := c.toNat_lt
    have e : goesOn s.data.toList = decide (c.toNat = 61 ∨ letterN c.toNat = true ∨ digitN c.toNat = true) := by
      unfold goesOn
      rw [← hg, size_list]
      simp [hpos]
    rw [e]
    have HL := hid (fun w => cletter_any c.toNat hlt w)
    have HD := hid (fun w => cdigit_any c.toNat hlt w)
    obtain ⟨n, hn⟩ : ∃ n, c.toNat = n := ⟨_, rfl⟩
    rw [hn] at HL HD hlt ⊢
    clear hg e h0
    by_cases h61 : n = 61
    · have d : ((n : Int) == 61) = true := by rw [h61]; rfl
      rw [decide_eq_true (.inl h61)]
      clear h61
      go_enter Tryd.func56, Tryd.ntmps56
      go_wp2
      go_ret
      exact ⟨rfl, rfl⟩
    · have d : ((n : Int) == 61) = false := beq_eq_false_iff_ne.2 (by omega)
      obtain ⟨b1, hb1⟩ : ∃ b, letterN n = b := ⟨_, rfl⟩
      obtain ⟨b2, hb2⟩ : ∃ b, digitN n = b := ⟨_, rfl⟩
      have e2 : decide (n = 61 ∨ letterN n = true ∨ digitN n = true) = (b1 || b2) := by rw [hb1, hb2]; simp [h61]
      rw [e2]
      rw [hb1] at HL
      rw [hb2] at HD
      clear e2 hb1 hb2 h61
      cases b1 with
      | true =>
        go_enter Tryd.func56, Tryd.ntmps56
        go_wp2_with fail
        refine (HL.out _).mono ?_
        rintro e w' ⟨rfl, rfl⟩
        go_wp2
        go_ret
        exact ⟨rfl, rfl⟩
      | false =>
        go_enter Tryd.func56, Tryd.ntmps56
        go_wp2_with fail
        refine (HL.out _).mono ?_
        rintro e w' ⟨rfl, rfl⟩
        go_wp2_with fail
        refine (HD.out _).mono ?_
        rintro e w' ⟨rfl, rfl⟩
        go_wp2
        go_ret
        exact ⟨rfl, rfl⟩
end Go.Proofs.YtgldgdopabmefaaDoor
