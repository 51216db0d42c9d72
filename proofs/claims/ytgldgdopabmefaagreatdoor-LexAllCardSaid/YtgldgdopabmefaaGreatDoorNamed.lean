/- Walks: package ent, the longest name. -/
import Derived.Test.YtgldgdopabmefaaGreatDoorNames
import Derived.Test.YtgldgdopabmefaaGreatDoorMeanText
import Derived.Test.YtgldgdopabmefaaGreatDoorChar
import Derived.Test.YtgldgdopabmefaaGreatDoorShelf
import Derived.WalkMore
import Derived.Deep.LoopGhost
namespace Go.Proofs.YtgldgdopabmefaaGreatDoor
open Go.RowKit Go.Lib Ent
set_option maxRecDepth 100000
set_option linter.unusedVariables false

def namedV (l : List UInt8) : Ending := .returned (.tuple #[.string ⟨(named l).1.toArray⟩, .int .i64 (named l).2])
theorem namedV_eq {l is : List UInt8} {n : Nat} (h : Best l is n) : namedV l = .returned (.tuple #[.string ⟨is.toArray⟩, .int .i64 n]) := by
  unfold namedV
  rw [named_eq h]
theorem letter_B (c : Nat) : letterN c = true ↔ ((97 ≤ c ∧ c ≤ 122) ∨ (65 ≤ c ∧ c ≤ 90)) := by unfold letterN; simp
theorem isEmpty_false {s : ByteArray} (h : 0 < s.size) : s.toList.isEmpty = false := by
  rw [toList_data]
  cases he : s.data.toList with
  | nil => rw [size_eq, he] at h; simp at h
  | cons a b => rfl
theorem pre_semi (s : ByteArray) (k : Nat) (hk : k ≤ s.size) : hasPrefix (s.extract k s.size).data.toList [59] = decide (k < s.size ∧ U8.B s.data.toList k = 59) := by
  rw [extract_drop]
  unfold hasPrefix
  by_cases h : k < s.size
  · have hl : k < s.data.toList.length := by rw [size_list]; exact h
    rw [List.drop_eq_getElem_cons hl, U8.B_eq (List.getElem?_eq_getElem hl), Bool.eq_iff_iff]
    simp only [decide_eq_true_eq, List.isPrefixOf_cons_cons, List.isPrefixOf_nil_left, Bool.and_true, beq_iff_eq]
    constructor
    · intro e; exact ⟨h, by rw [← e]; rfl⟩
    · intro ⟨_, e⟩; exact (UInt8.toNat_inj.1 e).symm
  · rw [List.drop_of_length_le (by rw [size_list]; omega)]
    simp [h]
set_option maxHeartbeats 4000000 in
theorem named_any (s : ByteArray) (w : World) (hs : s.size ≤ 1000000) :
    Calls Tryz.prog 82 #[.string s] w fun e w' => e = namedV s.data.toList ∧ Below w.heap.size w w' := by
  by_cases h0 : s.size = 0
  · have hl : s.data.toList = [] := List.length_eq_zero_iff.1 (by rw [size_list]; exact h0)
    obtain rfl : s = ⟨#[]⟩ := by apply ByteArray.ext; apply Array.ext'; exact hl
    have HE := hid (namedV_eq (best_none (l := []) (.inl rfl)))
    clear hl h0
    go_enter Tryz.func82, Tryz.ntmps82
    go_wp2
    go_step3
    go_wp2
    try rw [Exit.noGoto_ret]
    go_ret2
    exact ⟨by rw [HE.out]; rfl, Below.refl _ _⟩
  have hpos : 0 < s.size := by omega
  have hne := isEmpty_false hpos
  have hg := get_of s 0 hpos
  have hlt : (s[0]'hpos).toNat < 256 := UInt8.toNat_lt _
  obtain ⟨c, hc⟩ : ∃ c, (s[0]'hpos) = c := ⟨_, rfl⟩
  by_cases hL : letterN c.toNat = true
  · have HB : Hid (U8.B s.data.toList 0 = c.toNat) := hid (by rw [← hg, hc])
    have HL := hid (cletter_any c.toNat (UInt8.toNat_lt _))
    rw [hL] at HL
    have HNm := hid (names_any c.toNat (UInt8.toNat_lt _))
    clear hg hlt hL h0
    go_enter Tryz.func82, Tryz.ntmps82
    go_wp2
    go_step3
    go_wp2_with fail
    refine (HL.out _).mono ?_
    rintro e w' ⟨rfl, rfl⟩
    go_wp2_with fail
    refine (HNm.out _).mono ?_
    rintro e w1 ⟨rfl, hT, hb⟩
    have HT := hid hT
    have HBe := hid hb
    clear hT hb HNm HL
    go_wp2
    go_step3
    go_wp2
    go_loopg [5, 6, 7] 7 (fun g is wd n wx => ∃ (k wn : Nat) (isl : List UInt8), k + g = 8 ∧ 1 ≤ k ∧ k ≤ s.size + 1 ∧ n = .int .i64 k ∧ is = .string ⟨isl.toArray⟩ ∧ wd = .int .i64 wn ∧ Hid (ByLen s.data.toList k isl wn) ∧ wn ≤ 8 ∧ IsTab wx w.heap.size (sub c.toNat).reverse ∧ Below w.heap.size w wx)
    case atStart => exact ⟨1, 0, [], rfl, Nat.le_refl _, by omega, rfl, rfl, rfl, hid (byLen_start _), by omega, HT.out, HBe.out⟩
    case round =>
      obtain ⟨k, wn, isl, hkg, hk1, hks, rfl, rfl, rfl, HI, hwn, hTb, hbw⟩ := hrel
      by_cases hend : 7 < k ∨ s.size < k
      · have HE := hid (namedV_eq (byLen_end (by rw [size_list]; exact hend) HI.out))
        have HW := hid hbw
        clear hTb hbw hkg HI
        have hd : decide ((k : Int) ≤ min (s.size : Int) 7) = false := decide_eq_false (by omega)
        clear hend
        go_wp2
        rw [Exit.noGoto_ret]
        go_ret2
        exact ⟨by rw [HE.out]; rfl, HW.out⟩
      · obtain ⟨hk7, hkl⟩ : k ≤ 7 ∧ k ≤ s.size := by omega
        have hd : decide ((k : Int) ≤ min (s.size : Int) 7) = true := decide_eq_true (by omega)
        clear hend
        have hel : (s.extract 0 k).data.toList = s.data.toList.take k := extract_list s k
        have hes : (s.extract 0 k).size = k := size_extract0 s k hkl
        have hlk := run_lookup hTb (s.extract 0 k) (by omega)
        rw [hel] at hlk
        have hB0 : U8.B (s.data.toList.take k) 0 = c.toNat := by rw [U8.B_take _ _ _ (by omega)]; exact HB.out
        have hnl : ((8 : Nat) - k) = (7 - k) + 1 := by omega
        have hll : k ≤ s.data.toList.length := by rw [size_list]; exact hkl
        have HP := hid fun w => Tryz.strings_HasPrefix (s.extract k s.size) ⟨#[59]⟩ w
        rw [show (⟨#[59]⟩ : ByteArray).data.toList = [59] from rfl, pre_semi s k hkl] at HP
        have hsz := hTb.lt
        unfold lookV at hlk
        cases hlo : Ent.look (sub c.toNat).reverse (s.data.toList.take k) with
        | none =>
          rw [hlo] at hlk
          rw [← hB0] at hlo
          have HI2 := hid (byLen_none hll (look_subr_none hlo) HI.out)
          have HTb := hid hTb
          have HW := hid hbw
          have hlk2 : (Instr.lookup 119 (.map (some w.heap.size)) (.string (s.extract 0 k)) true).run Tryz.prog wr = .ok (.tuple #[.agg #[.int .i32 0, .int .i32 0, .bool false], .bool false]) wr := hlk
          clear hlk hlo HI hTb hbw HP hel hes hB0 hnl hll
          go_wp2
          go_roundg (7 - k)
          case measure => omega
          case rel => exact ⟨k + 1, wn, isl, by omega, by omega, by omega, by go_num, rfl, rfl, HI2, hwn, HTb.out.alloc _, HW.out.alloc HW.out.size _⟩
        | some r =>
          rw [hlo] at hlk
          rw [← hB0] at hlo
          obtain ⟨hr, hnm⟩ := look_subr hlo
          have hch := tab_chars r hr
          have HTx := hid fun w => mtext_any (one1 r) (two1 r) (bare r) (by unfold OkC; omega) (by unfold OkC; omega) w
          have hisr : textOf (one1 r) (two1 r) = isOf r := rfl
          rw [hisr] at HTx
          have HTb := hid hTb
          have HW := hid hbw
          have hlk2 : (Instr.lookup 119 (.map (some w.heap.size)) (.string (s.extract 0 k)) true).run Tryz.prog wr = .ok (.tuple #[.agg #[.int .i32 (one1 r : Nat), .int .i32 (two1 r : Nat), .bool (bare r)], .bool true]) wr := hlk
          have hT2 := (HTb.out.alloc (.cells #[.int .i32 (one1 r : Nat), .int .i32 (two1 r : Nat), .bool (bare r)] 122))
          have hW2 := HW.out.alloc HW.out.size (.cells #[.int .i32 (one1 r : Nat), .int .i32 (two1 r : Nat), .bool (bare r)] 122)
          unfold meanV at HTx
          by_cases hsm : k < s.size ∧ U8.B s.data.toList k = 59
          · have HE := hid (namedV_eq (byLen_semi (by rw [size_list]; exact hsm.1) hr hnm hsm.2))
            rw [decide_eq_true hsm] at HP
            generalize isOf r = ir at *
            generalize one1 r = o1 at *
            generalize two1 r = o2 at *
            generalize bare r = br at *
            have HT2 := hid hT2
            have HW2 := hid hW2
            clear hlk hlo HI hTb hbw hel hes hB0 hnl hll hsm hr hnm hisr hT2 hW2 hch HTb HW
            go_wp2_with fail
            refine (HP.out _).mono ?_
            rintro e w2 ⟨rfl, rfl⟩
            go_wp2_with fail
            refine (HTx.out _).mono ?_
            rintro e w3 ⟨rfl, hb3⟩
            have HB3 := hid (HW2.out.trans (hb3.mono HW2.out.size))
            clear hb3
            go_wp2
            rw [Exit.noGoto_ret]
            go_ret2
            exact ⟨by rw [HE.out]; rfl, HB3.out⟩
          · rw [decide_eq_false hsm] at HP
            rw [← size_list s] at hsm
            cases hbr : bare r with
            | true =>
              have HI2 := hid (byLen_bare hll hr hnm hsm hbr HI.out)
              rw [hbr] at hlk2 HTx hT2 hW2
              generalize isOf r = ir at *
              generalize one1 r = o1 at *
              generalize two1 r = o2 at *
              have HT2 := hid hT2
              have HW2 := hid hW2
              clear hlk hlo HI hTb hbw hel hes hB0 hnl hll hsm hr hnm hisr hT2 hW2 hch HTb HW hbr
              go_wp2_with fail
              refine (HP.out _).mono ?_
              rintro e w2 ⟨rfl, rfl⟩
              go_wp2_with fail
              refine (HTx.out _).mono ?_
              rintro e w3 ⟨rfl, hb3⟩
              have HB3 := hid (HW2.out.trans (hb3.mono HW2.out.size))
              have HT3 := hid (IsTab.below (t := (sub c.toNat).reverse) HT2.out hb3)
              clear hb3
              go_wp2
              go_roundg (7 - k)
              case measure => omega
              case rel => exact ⟨k + 1, k, ir, by omega, by omega, by omega, by go_num, rfl, rfl, HI2, by omega, HT3.out, HB3.out⟩
            | false =>
              have HI2 := hid (byLen_not hll hr hnm hsm hbr HI.out)
              rw [hbr] at hlk2 hT2 hW2
              generalize one1 r = o1 at *
              generalize two1 r = o2 at *
              have HT2 := hid hT2
              have HW2 := hid hW2
              clear hlk hlo HI hTb hbw hel hes hB0 hnl hll hsm hr hnm hisr hT2 hW2 hch HTb HW hbr HTx
              go_wp2_with fail
              refine (HP.out _).mono ?_
              rintro e w2 ⟨rfl, rfl⟩
              go_wp2
              go_roundg (7 - k)
              case measure => omega
              case rel => exact ⟨k + 1, wn, isl, by omega, by omega, by omega, by go_num, rfl, rfl, HI2, hwn, HT2.out, HW2.out⟩
  · have HE := hid (namedV_eq (best_none (l := s.data.toList) (.inr (by rw [← hg, hc, ← letter_B]; exact hL))))
    have HL := hid (cletter_any c.toNat (UInt8.toNat_lt _))
    rw [show letterN c.toNat = false by simpa using hL] at HL
    clear hg hlt hL h0
    go_enter Tryz.func82, Tryz.ntmps82
    go_wp2
    go_step3
    go_wp2_with fail
    refine (HL.out _).mono ?_
    rintro e w' ⟨rfl, rfl⟩
    go_wp2
    try rw [Exit.noGoto_ret]
    go_ret2
    exact ⟨by rw [HE.out]; rfl, Below.refl _ _⟩
end Go.Proofs.YtgldgdopabmefaaGreatDoor
