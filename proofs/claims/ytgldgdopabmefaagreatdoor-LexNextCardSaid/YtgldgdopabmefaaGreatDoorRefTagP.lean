/- Walks over the reference of layer 6: passing over blanks, and names; whether a tag begins. Walks over the reference of layer 6: whether a tag begins. Walks over the reference of layer 6: a value. Walks over the reference of layer 6: Read. -/
import Derived.Test.YtgldgdopabmefaaGreatDoorTagPl
import Derived.Test.YtgldgdopabmefaaGreatDoorTagV
import Derived.Test.YtgldgdopabmefaaGreatDoorRefHex
import Derived.Test.YtgldgdopabmefaaGreatDoorRefLower
import Derived.Test.YtgldgdopabmefaaGreatDoorRawTag
import Derived.Deep.LoopGhost
import Derived.Handy
namespace Go.Proofs.YtgldgdopabmefaaGreatDoor
open Go.RowKit Go.Lib
set_option maxRecDepth 100000
set_option linter.unusedVariables false

set_option maxHeartbeats 1000000 in
theorem blanks_any (s : ByteArray) (i : Nat) (w : World) (hs : s.size ≤ 1000000) (hi : i ≤ s.size) :
    Calls Tryz.prog 39 #[.string s, .int .i64 i] w fun e w' => e = .returned (.int .i64 (Tag.skip Tag.spB s.data.toList i : Nat)) ∧ w = w' := by
  have HL := hid (at_list s)
  have HZ := hid (size_list s)
  obtain ⟨l, hl⟩ : ∃ l, s.data.toList = l := ⟨_, rfl⟩
  rw [hl] at HL HZ ⊢
  clear hl
  obtain ⟨r, hr⟩ : ∃ r, Tag.skip Tag.spB l i = r := ⟨_, rfl⟩
  rw [hr]
  have HR := hid hr
  clear hr
  go_enter Tryz.func39, Tryz.ntmps39
  go_wp2
  go_loopg [1] s.size (fun g iv wr => ∃ k : Nat, k + g = s.size + i ∧ k ≤ s.size ∧ iv = .int .i64 k ∧ Hid (Tag.skip Tag.spB l k = r) ∧ w = wr)
  case atStart => exact ⟨i, by omega, hi, rfl, HR, rfl⟩
  case round =>
    obtain ⟨k, hk, hks, rfl, hI, rfl⟩ := hrel
    by_cases hlt : k < s.size
    · have d1 : decide (k < s.size) = true := decide_eq_true hlt
      have hltI : (k : Int) < (s.size : Int) := by omega
      have hat := HL.out k hlt
      obtain ⟨c, hc⟩ : ∃ c, s[k]'hlt = c := ⟨_, rfl⟩
      rw [hc] at hat
      have hc256 := c.toNat_lt
      have HS := rspace_any c.toNat (by omega) w
      cases hp : spaceN c.toNat with
      | true =>
        have HN := hid ((Tag.skip_go hat (show Tag.spB c = true from hp)).symm.trans hI.out)
        rw [hp] at HS
        have HS := hid HS
        obtain ⟨n, hn⟩ : ∃ n, c.toNat = n := ⟨_, rfl⟩
        rw [hn] at HS hc256
        clear hp hat hI
        go_wp2_with fail
        refine HS.out.mono ?_
        rintro e w1 ⟨rfl, rfl⟩
        go_wp2
        go_roundg (s.size + i - (k + 1))
        case measure => omega
        case rel => exact ⟨k + 1, by omega, by omega, by go_num, HN, rfl⟩
      | false =>
        have HN := hid ((Tag.skip_stop hat (show Tag.spB c = false from hp)).symm.trans hI.out)
        rw [hp] at HS
        have HS := hid HS
        obtain ⟨n, hn⟩ : ∃ n, c.toNat = n := ⟨_, rfl⟩
        rw [hn] at HS hc256
        clear hp hat hI
        go_wp2_with fail
        refine HS.out.mono ?_
        rintro e w1 ⟨rfl, rfl⟩
        go_wp2
        go_ret
        exact ⟨ret_int (by have := HN.out; omega), rfl⟩
    · have d1 : decide (k < s.size) = false := decide_eq_false hlt
      have hltI : ¬ (k : Int) < (s.size : Int) := by omega
      have HN := hid ((Tag.skip_end (p := Tag.spB) (l := l) (i := k) (by have := HZ.out; omega)).symm.trans hI.out)
      clear hI
      go_wp2
      go_ret
      exact ⟨ret_int (by have := HN.out; omega), rfl⟩
set_option maxHeartbeats 2000000 in
theorem word_false (s : ByteArray) (i : Nat) (w : World) (hs : s.size ≤ 1000000) (hi : i ≤ s.size) :
    Calls Tryz.prog 37 #[.string s, .int .i64 i, .bool false] w fun e w' => e = .returned (.int .i64 (Tag.skip (Tag.wdB false) s.data.toList i : Nat)) ∧ w = w' := by
  have HL := hid (at_list s)
  have HZ := hid (size_list s)
  obtain ⟨l, hl⟩ : ∃ l, s.data.toList = l := ⟨_, rfl⟩
  rw [hl] at HL HZ ⊢
  clear hl
  obtain ⟨r, hr⟩ : ∃ r, Tag.skip (Tag.wdB false) l i = r := ⟨_, rfl⟩
  rw [hr]
  have HR := hid hr
  clear hr
  go_enter Tryz.func37, Tryz.ntmps37
  go_wp2
  go_loopg [1] s.size (fun g iv wr => ∃ k : Nat, k + g = s.size + i ∧ k ≤ s.size ∧ iv = .int .i64 k ∧ Hid (Tag.skip (Tag.wdB false) l k = r) ∧ w = wr)
  case atStart => exact ⟨i, by omega, hi, rfl, HR, rfl⟩
  case round =>
    obtain ⟨k, hk, hks, rfl, hI, rfl⟩ := hrel
    by_cases hlt : k < s.size
    · have d1 : decide (k < s.size) = true := decide_eq_true hlt
      have hltI : (k : Int) < (s.size : Int) := by omega
      have hat := HL.out k hlt
      obtain ⟨c, hc⟩ : ∃ c, s[k]'hlt = c := ⟨_, rfl⟩
      rw [hc] at hat
      have hc256 := c.toNat_lt
      have HS := rspace_any c.toNat (by omega) w
      cases hsp : spaceN c.toNat with
      | true =>
        rw [hsp] at HS
        have HS := hid HS
        have HN := hid ((Tag.skip_stop hat (show Tag.wdB false c = false by unfold Tag.wdB Tag.spB; rw [hsp]; rfl)).symm.trans hI.out)
        clear hat hI hsp
        go_wp2_with fail
        refine HS.out.mono ?_
        rintro e w1 ⟨rfl, rfl⟩
        go_wp2
        go_ret
        exact ⟨ret_int (by have := HN.out; omega), rfl⟩
      | false =>
        rw [hsp] at HS
        have HS := hid HS
        by_cases h47 : c.toNat = 47
        · have m1 : ((c.toNat : Nat) : Int) = 47 := by omega
          have b1 : (((c.toNat : Nat) : Int) != 47) = false := by simp [h47]
          have HN := hid ((Tag.skip_stop hat (show Tag.wdB false c = false by unfold Tag.wdB Tag.spB; rw [hsp, h47]; rfl)).symm.trans hI.out)
          clear hat hI hsp
          clear h47 m1
          go_wp2_with fail
          refine HS.out.mono ?_
          rintro e w1 ⟨rfl, rfl⟩
          go_wp2
          go_ret
          exact ⟨ret_int (by have := HN.out; omega), rfl⟩
        have b1 : (((c.toNat : Nat) : Int) != 47) = true := by simp; omega
        have c1 : (c.toNat != 47) = true := by simpa using h47
        by_cases h62 : c.toNat = 62
        · have b2 : (((c.toNat : Nat) : Int) != 62) = false := by simp [h62]
          have HN := hid ((Tag.skip_stop hat (show Tag.wdB false c = false by unfold Tag.wdB Tag.spB; rw [hsp, c1, h62]; rfl)).symm.trans hI.out)
          clear hat hI hsp
          clear h47 h62 c1
          go_wp2_with fail
          refine HS.out.mono ?_
          rintro e w1 ⟨rfl, rfl⟩
          go_wp2
          go_ret
          exact ⟨ret_int (by have := HN.out; omega), rfl⟩
        have b2 : (((c.toNat : Nat) : Int) != 62) = true := by simp; omega
        have c2 : (c.toNat != 62) = true := by simpa using h62
        have HN := hid ((Tag.skip_go hat (show Tag.wdB false c = true by unfold Tag.wdB Tag.spB; rw [hsp, c1, c2]; rfl)).symm.trans hI.out)
        clear hat hI hsp
        clear h47 h62 c1 c2
        go_wp2_with fail
        refine HS.out.mono ?_
        rintro e w1 ⟨rfl, rfl⟩
        go_wp2
        go_roundg (s.size + i - (k + 1))
        case measure => omega
        case rel => exact ⟨k + 1, by omega, by omega, by go_num, HN, rfl⟩
    · have d1 : decide (k < s.size) = false := decide_eq_false hlt
      have hltI : ¬ (k : Int) < (s.size : Int) := by omega
      have HN := hid ((Tag.skip_end (p := Tag.wdB false) (l := l) (i := k) (by have := HZ.out; omega)).symm.trans hI.out)
      clear hI
      go_wp2
      go_ret
      exact ⟨ret_int (by have := HN.out; omega), rfl⟩
set_option maxHeartbeats 2000000 in
theorem word_true (s : ByteArray) (i : Nat) (w : World) (hs : s.size ≤ 1000000) (hi : i ≤ s.size) :
    Calls Tryz.prog 37 #[.string s, .int .i64 i, .bool true] w fun e w' => e = .returned (.int .i64 (Tag.skip (Tag.wdB true) s.data.toList i : Nat)) ∧ w = w' := by
  have HL := hid (at_list s)
  have HZ := hid (size_list s)
  obtain ⟨l, hl⟩ : ∃ l, s.data.toList = l := ⟨_, rfl⟩
  rw [hl] at HL HZ ⊢
  clear hl
  obtain ⟨r, hr⟩ : ∃ r, Tag.skip (Tag.wdB true) l i = r := ⟨_, rfl⟩
  rw [hr]
  have HR := hid hr
  clear hr
  go_enter Tryz.func37, Tryz.ntmps37
  go_wp2
  go_loopg [1] s.size (fun g iv wr => ∃ k : Nat, k + g = s.size + i ∧ k ≤ s.size ∧ iv = .int .i64 k ∧ Hid (Tag.skip (Tag.wdB true) l k = r) ∧ w = wr)
  case atStart => exact ⟨i, by omega, hi, rfl, HR, rfl⟩
  case round =>
    obtain ⟨k, hk, hks, rfl, hI, rfl⟩ := hrel
    by_cases hlt : k < s.size
    · have d1 : decide (k < s.size) = true := decide_eq_true hlt
      have hltI : (k : Int) < (s.size : Int) := by omega
      have hat := HL.out k hlt
      obtain ⟨c, hc⟩ : ∃ c, s[k]'hlt = c := ⟨_, rfl⟩
      rw [hc] at hat
      have hc256 := c.toNat_lt
      have HS := rspace_any c.toNat (by omega) w
      cases hsp : spaceN c.toNat with
      | true =>
        rw [hsp] at HS
        have HS := hid HS
        have HN := hid ((Tag.skip_stop hat (show Tag.wdB true c = false by unfold Tag.wdB Tag.spB; rw [hsp]; rfl)).symm.trans hI.out)
        clear hat hI hsp
        go_wp2_with fail
        refine HS.out.mono ?_
        rintro e w1 ⟨rfl, rfl⟩
        go_wp2
        go_ret
        exact ⟨ret_int (by have := HN.out; omega), rfl⟩
      | false =>
        rw [hsp] at HS
        have HS := hid HS
        by_cases h47 : c.toNat = 47
        · have m1 : ((c.toNat : Nat) : Int) = 47 := by omega
          have b1 : (((c.toNat : Nat) : Int) != 47) = false := by simp [h47]
          have HN := hid ((Tag.skip_stop hat (show Tag.wdB true c = false by unfold Tag.wdB Tag.spB; rw [hsp, h47]; rfl)).symm.trans hI.out)
          clear hat hI hsp
          clear h47 m1
          go_wp2_with fail
          refine HS.out.mono ?_
          rintro e w1 ⟨rfl, rfl⟩
          go_wp2
          go_ret
          exact ⟨ret_int (by have := HN.out; omega), rfl⟩
        have b1 : (((c.toNat : Nat) : Int) != 47) = true := by simp; omega
        have c1 : (c.toNat != 47) = true := by simpa using h47
        by_cases h62 : c.toNat = 62
        · have b2 : (((c.toNat : Nat) : Int) != 62) = false := by simp [h62]
          have HN := hid ((Tag.skip_stop hat (show Tag.wdB true c = false by unfold Tag.wdB Tag.spB; rw [hsp, c1, h62]; rfl)).symm.trans hI.out)
          clear hat hI hsp
          clear h47 h62 c1
          go_wp2_with fail
          refine HS.out.mono ?_
          rintro e w1 ⟨rfl, rfl⟩
          go_wp2
          go_ret
          exact ⟨ret_int (by have := HN.out; omega), rfl⟩
        have b2 : (((c.toNat : Nat) : Int) != 62) = true := by simp; omega
        have c2 : (c.toNat != 62) = true := by simpa using h62
        by_cases h61 : c.toNat = 61
        · have b3 : (((c.toNat : Nat) : Int) != 61) = false := by simp [h61]
          have HN := hid ((Tag.skip_stop hat (show Tag.wdB true c = false by unfold Tag.wdB Tag.spB; rw [hsp, c1, c2, h61]; rfl)).symm.trans hI.out)
          clear hat hI hsp
          clear h47 h62 h61 c1 c2
          go_wp2_with fail
          refine HS.out.mono ?_
          rintro e w1 ⟨rfl, rfl⟩
          go_wp2
          go_ret
          exact ⟨ret_int (by have := HN.out; omega), rfl⟩
        have b3 : (((c.toNat : Nat) : Int) != 61) = true := by simp; omega
        have c3 : (c.toNat != 61) = true := by simpa using h61
        have HN := hid ((Tag.skip_go hat (show Tag.wdB true c = true by unfold Tag.wdB Tag.spB; rw [hsp, c1, c2, c3]; rfl)).symm.trans hI.out)
        clear hat hI hsp
        clear h47 h62 h61 c1 c2 c3
        go_wp2_with fail
        refine HS.out.mono ?_
        rintro e w1 ⟨rfl, rfl⟩
        go_wp2
        go_roundg (s.size + i - (k + 1))
        case measure => omega
        case rel => exact ⟨k + 1, by omega, by omega, by go_num, HN, rfl⟩
    · have d1 : decide (k < s.size) = false := decide_eq_false hlt
      have hltI : ¬ (k : Int) < (s.size : Int) := by omega
      have HN := hid ((Tag.skip_end (p := Tag.wdB true) (l := l) (i := k) (by have := HZ.out; omega)).symm.trans hI.out)
      clear hI
      go_wp2
      go_ret
      exact ⟨ret_int (by have := HN.out; omega), rfl⟩
end Go.Proofs.YtgldgdopabmefaaGreatDoor
namespace Go.Proofs.YtgldgdopabmefaaGreatDoor
open Go.RowKit Go.Lib
set_option maxRecDepth 100000
set_option linter.unusedVariables false

set_option maxHeartbeats 2000000 in
theorem begins_any (s : ByteArray) (i : Int) (w : World) (hs : s.size ≤ 1000000) (hi : -9223372036854775808 ≤ i ∧ i ≤ 9223372036854775807) :
    Calls Tryz.prog 16 #[.string s, .int .i64 i] w fun e w' => e = .returned (.bool (begI s.data.toList i)) ∧ w = w' := by
  obtain ⟨i1, i2⟩ := hi
  by_cases hneg : i < 0
  · rw [begI_neg hneg]
    have d0 : decide (i < 0) = true := decide_eq_true hneg
    go_enter Tryz.func16, Tryz.ntmps16
    go_wp2
    go_ret
    exact ⟨rfl, rfl⟩
  obtain ⟨n, rfl⟩ : ∃ n : Nat, i = n := ⟨i.toNat, by omega⟩
  rw [begI_nat]
  have hsl := size_list s
  by_cases hlen : s.size ≤ n + 1
  · rw [begB_short (by omega)]
    have d1 : decide ((s.size : Int) - 1 ≤ (n : Int)) = true := decide_eq_true (by omega)
    have HSL := hid hsl
    clear hsl
    go_enter Tryz.func16, Tryz.ntmps16
    go_wp2
    go_ret
    exact ⟨rfl, rfl⟩
  have d1 : decide ((s.size : Int) - 1 ≤ (n : Int)) = false := decide_eq_false (by omega)
  have hn0 : n < s.size := by omega
  have hn1 : n + 1 < s.size := by omega
  have g0 := get_of s n hn0
  have g1 := get_of s (n + 1) hn1
  obtain ⟨c0, hc0⟩ : ∃ c, s[n]'hn0 = c := ⟨_, rfl⟩
  obtain ⟨c1, hc1⟩ : ∃ c, s[n + 1]'hn1 = c := ⟨_, rfl⟩
  rw [hc0] at g0
  rw [hc1] at g1
  have k0 := c0.toNat_lt
  have k1 := c1.toNat_lt
  have q1 : ((n : Int) + 1).toNat = n + 1 := by omega
  have q2 : ((n : Int) + 2).toNat = n + 2 := by omega
  by_cases h60 : c0.toNat = 60
  · have b0 : (((c0.toNat : Nat) : Int) != 60) = false := by simp [h60]
    by_cases h47 : c1.toNat = 47
    · have b1 : (((c1.toNat : Nat) : Int) == 47) = true := by simp [h47]
      rw [begB_end (by omega) (by omega) (by omega)]
      by_cases h2 : n + 2 < s.size
      · have g2 := get_of s (n + 2) h2
        obtain ⟨c2, hc2⟩ : ∃ c, s[n + 2]'h2 = c := ⟨_, rfl⟩
        rw [hc2] at g2
        have k2 := c2.toNat_lt
        have HS := hid (rletter_any c2.toNat (by omega) w)
        have HR := hid (show (decide (n + 2 < s.data.toList.length) && letterN (U8.B s.data.toList (n + 2))) = letterN c2.toNat by rw [decide_eq_true (by omega), ← g2]; rfl)
        rw [HR.out]
        have d2 : decide ((n : Int) + 2 < (s.size : Int)) = true := decide_eq_true (by omega)
        have d2I : (n : Int) + 2 < (s.size : Int) := by omega
        generalize letterN c2.toNat = r at *
        have HG := hid g0
        have HG1 := hid g1
        have HG2 := hid g2
        have HSL := hid hsl
        clear g0 g1 g2 hsl h60 h47
        go_enter Tryz.func16, Tryz.ntmps16
        go_wp2_with fail
        refine HS.out.mono ?_
        rintro e w1 ⟨rfl, rfl⟩
        go_wp2
        go_ret
        exact ⟨rfl, rfl⟩
      · have d2 : decide ((n : Int) + 2 < (s.size : Int)) = false := decide_eq_false (by omega)
        have d2I : ¬ (n : Int) + 2 < (s.size : Int) := by omega
        rw [decide_eq_false (by omega), Bool.false_and]
        clear g0 g1 hsl h60 h47
        go_enter Tryz.func16, Tryz.ntmps16
        go_wp2
        go_ret
        exact ⟨rfl, rfl⟩
    · have b1 : (((c1.toNat : Nat) : Int) == 47) = false := by simp; omega
      rw [begB_name (by omega) (by omega) (by omega), ← g1]
      have HS := hid (rletter_any c1.toNat (by omega) w)
      generalize letterN c1.toNat = r at *
      clear g0 g1 hsl h60 h47
      go_enter Tryz.func16, Tryz.ntmps16
      go_wp2_with fail
      refine HS.out.mono ?_
      rintro e w1 ⟨rfl, rfl⟩
      go_wp2
      go_ret
      exact ⟨rfl, rfl⟩
  · have b0 : (((c0.toNat : Nat) : Int) != 60) = true := by simp; omega
    rw [begB_other (by omega)]
    clear g0 g1 hsl h60
    go_enter Tryz.func16, Tryz.ntmps16
    go_wp2
    go_ret
    exact ⟨rfl, rfl⟩
end Go.Proofs.YtgldgdopabmefaaGreatDoor
namespace Go.Proofs.YtgldgdopabmefaaGreatDoor
open Go.RowKit Go.Lib
set_option maxRecDepth 100000
set_option linter.unusedVariables false

/-- What Decode of an attribute's value answers. -/
def DecA : Prop := ∀ (x : ByteArray) (w : World), x.size ≤ 500000 → Calls Tryz.prog 21 #[.string x, .bool true] w fun e w' => e = .returned (.string ⟨(Ent.decode true x.data.toList).toArray⟩) ∧ Below w.heap.size w w'
def valE (p : List UInt8 × Nat × Bool) : Ending := .returned (.tuple #[.string ⟨p.1.toArray⟩, .int .i64 (p.2.1 : Nat), .bool p.2.2])
theorem valP_none {l : List UInt8} {i a : Nat} (h : Tag.skip Tag.spB l i = a) (h1 : l[a]? = none) : Tag.valP l i = ([], a, false) := by
  unfold Tag.valP; simp only [h, h1]
theorem valP_gt {l : List UInt8} {i a : Nat} {c : UInt8} (h : Tag.skip Tag.spB l i = a) (h1 : l[a]? = some c) (hc : c.toNat = 62) : Tag.valP l i = ([], a, true) := by
  unfold Tag.valP; simp only [h, h1, hc, if_true]
theorem valP_quote {l : List UInt8} {i a k : Nat} {c : UInt8} (h : Tag.skip Tag.spB l i = a) (h1 : l[a]? = some c) (hc : c.toNat = 34 ∨ c.toNat = 39) (hk : Tag.skip (Tag.qtB c) l (a + 1) = k) :
    Tag.valP l i = if k = l.length then ([], k, false) else (Ent.decode true (Tag.cutP l (a + 1) k), k + 1, true) := by
  unfold Tag.valP
  have n62 : ¬ c.toNat = 62 := by omega
  simp only [h, h1, hk, if_neg n62, if_pos hc]
theorem valP_bare {l : List UInt8} {i a k : Nat} {c : UInt8} (h : Tag.skip Tag.spB l i = a) (h1 : l[a]? = some c) (n62 : ¬ c.toNat = 62) (hc : ¬ (c.toNat = 34 ∨ c.toNat = 39)) (hk : Tag.skip Tag.vlB l a = k) :
    Tag.valP l i = (Ent.decode true (Tag.cutP l a k), k, true) := by
  unfold Tag.valP
  simp only [h, h1, hk, if_neg n62, if_neg hc]

set_option maxHeartbeats 4000000 in
theorem value_any (HD : DecA) (s : ByteArray) (i : Nat) (w : World) (hs : s.size ≤ 500000) (hi : i ≤ s.size) :
    Calls Tryz.prog 40 #[.string s, .int .i64 i] w fun e w' => e = valE (Tag.valP s.data.toList i) ∧ Below w.heap.size w w' := by
  have HB := blanks_any s i w (by omega) hi
  have ha2 := Tag.skip_le Tag.spB s.data.toList i (by rw [size_list]; exact hi)
  rw [size_list] at ha2
  obtain ⟨a, ha⟩ : ∃ a, Tag.skip Tag.spB s.data.toList i = a := ⟨_, rfl⟩
  rw [ha] at HB ha2
  have HB := hid HB
  by_cases hend : a = s.size
  · subst hend
    have hn : s.data.toList[s.size]? = none := List.getElem?_eq_none (by rw [size_list]; omega)
    rw [valP_none ha hn]
    have d0 : ((s.size : Int) == (s.size : Int)) = true := beq_self_eq_true _
    clear hn ha
    go_enter Tryz.func40, Tryz.ntmps40
    go_wp2_with fail
    refine HB.out.mono ?_
    rintro e w1 ⟨rfl, rfl⟩
    go_wp2
    go_returns
    exact ⟨rfl, Below.refl _ _⟩
  have hlt : a < s.size := by omega
  have hat := at_list s a hlt
  obtain ⟨c, hc⟩ : ∃ c, s[a]'hlt = c := ⟨_, rfl⟩
  rw [hc] at hat
  have hc256 := c.toNat_lt
  have d0 : ((a : Int) == (s.size : Int)) = false := by simp; omega
  by_cases h62 : c.toNat = 62
  · rw [valP_gt ha hat h62]
    have b1 : (((c.toNat : Nat) : Int) == 62) = true := by simp [h62]
    clear hat ha h62
    go_enter Tryz.func40, Tryz.ntmps40
    go_wp2_with fail
    refine HB.out.mono ?_
    rintro e w1 ⟨rfl, rfl⟩
    go_wp2
    go_returns
    exact ⟨rfl, Below.refl _ _⟩
  have b1 : (((c.toNat : Nat) : Int) == 62) = false := by simp; omega
  have HL := hid (at_list s)
  have HZ := hid (size_list s)
  by_cases hq : c.toNat = 34 ∨ c.toNat = 39
  · have hqI : (((c.toNat : Nat) : Int) == 34) = true ∨ (((c.toNat : Nat) : Int) == 34) = false ∧ (((c.toNat : Nat) : Int) == 39) = true := by
      rcases hq with h | h
      · left; simp [h]
      · right; simp [h]
    obtain ⟨r, hr⟩ : ∃ r, Tag.skip (Tag.qtB c) s.data.toList (a + 1) = r := ⟨_, rfl⟩
    have hr1 := Tag.skip_ge (Tag.qtB c) s.data.toList (a + 1)
    have hr2 := Tag.skip_le (Tag.qtB c) s.data.toList (a + 1) (by rw [size_list]; omega)
    rw [size_list] at hr2
    rw [hr] at hr1 hr2
    rw [valP_quote ha hat hq hr, size_list]
    obtain ⟨R, hR⟩ : ∃ R, valE (if r = s.size then ([], r, false) else (Ent.decode true (Tag.cutP s.data.toList (a + 1) r), r + 1, true)) = R := ⟨_, rfl⟩
    rw [hR]
    have HE := hid hR
    clear hR
    have HR := hid hr
    have HS := hid (cut_list s (a + 1) r)
    have HT := hid (cut_size s (a + 1) r hr2 hr1)
    obtain ⟨l, hl⟩ : ∃ l, s.data.toList = l := ⟨_, rfl⟩
    rw [hl] at HL HZ HR HS HE
    clear hat ha h62 hr hq hl
    go_enter Tryz.func40, Tryz.ntmps40
    go_wp2_with fail
    refine HB.out.mono ?_
    rintro e w1 ⟨rfl, rfl⟩
    have q1 : ((a : Int) + 1).toNat = a + 1 := by omega
    rcases hqI with b2 | ⟨b2, b3⟩
    all_goals
      go_wp2
      go_loopg [7] s.size (fun g iv wr => ∃ k : Nat, k + g = s.size + (a + 1) ∧ a + 1 ≤ k ∧ k ≤ s.size ∧ iv = .int .i64 k ∧ Hid (Tag.skip (Tag.qtB c) l k = r) ∧ Below w.heap.size w wr)
      case atStart => exact ⟨a + 1, by omega, by omega, by omega, by go_num, HR, Below.refl _ _⟩
      case round =>
        obtain ⟨k, hk, hka, hks, rfl, hI, hbw⟩ := hrel
        have hszr := hbw.size
        by_cases hlt : k < s.size
        · have d1 : decide (k < s.size) = true := decide_eq_true hlt
          have hltI : (k : Int) < (s.size : Int) := by omega
          have hat := HL.out k hlt
          obtain ⟨d, hd⟩ : ∃ d, s[k]'hlt = d := ⟨_, rfl⟩
          rw [hd] at hat
          have hd256 := d.toNat_lt
          by_cases hdc : d = c
          · have n1 : (((d.toNat : Nat) : Int) != ((c.toNat : Nat) : Int)) = false := by rw [hdc]; simp
            have hkr := (Tag.skip_stop hat (show Tag.qtB c d = false by unfold Tag.qtB; rw [hdc]; simp)).symm.trans hI.out
            subst hkr
            clear hI hat hdc HR HL HZ
            have hne : ¬ k = s.size := by omega
            have e1 : ((k : Int) == (s.size : Int)) = false := by simp; omega
            have HF := hid (show valE (Ent.decode true (Tag.cutP l (a + 1) k), k + 1, true) = R by rw [← HE.out, if_neg hne])
            clear HE
            have q2 : ((k : Int)).toNat = k := by omega
            have q3 : (0 : Int) ≤ (a : Int) + 1 := by omega
            have q4 : (a : Int) + 1 ≤ (k : Int) := by omega
            have q5 : (0 : Int) ≤ (k : Int) := by omega
            have q6 : (k : Int) ≤ (s.size : Int) := by omega
            have q7 : k ≤ s.size := hks
            go_wp2
            go_quiet (fail)
            go_wp2_with fail
            refine (HD (s.extract (a + 1) k) _ (by have := HT.out; omega)).mono ?_
            rw [HS.out]
            rintro e w2 ⟨rfl, b4⟩
            have b5 := hid ((bel_drewN hbw nq).trans (b4.mono hszr))
            clear b4 hbw hszr
            go_wp2
            go_returns
            exact ⟨HF.out, b5.out⟩
          · have n1 : (((d.toNat : Nat) : Int) != ((c.toNat : Nat) : Int)) = true := by
              rw [bne_iff_ne]
              intro h
              exact hdc (UInt8.toNat_inj.1 (by omega))
            have HN := hid ((Tag.skip_go hat (show Tag.qtB c d = true by unfold Tag.qtB; rw [bne_iff_ne]; exact hdc)).symm.trans hI.out)
            clear hat hI hdc
            go_wp2
            go_quiet (fail)
            go_wp2
            go_roundg (s.size + (a + 1) - (k + 1))
            case measure => omega
            case rel => exact ⟨k + 1, by omega, by omega, by omega, by go_num, HN, bel_drewN hbw _⟩
        · have d1 : decide (k < s.size) = false := decide_eq_false hlt
          have hltI : ¬ (k : Int) < (s.size : Int) := by omega
          have hkr := (Tag.skip_end (p := Tag.qtB c) (l := l) (i := k) (by have := HZ.out; omega)).symm.trans hI.out
          subst hkr
          have hke : k = s.size := by omega
          subst hke
          clear hI HR HL HZ
          have e1 : ((s.size : Int) == (s.size : Int)) = true := beq_self_eq_true _
          have HF := hid (show valE ([], s.size, false) = R by rw [← HE.out, if_pos rfl])
          clear HE
          go_wp2
          go_quiet (fail)
          go_wp2
          go_returns
          exact ⟨HF.out, bel_drewN hbw _⟩
  have hqn := hq
  have b2 : (((c.toNat : Nat) : Int) == 34) = false := by simp; omega
  have b3 : (((c.toNat : Nat) : Int) == 39) = false := by simp; omega
  obtain ⟨r, hr⟩ : ∃ r, Tag.skip Tag.vlB s.data.toList a = r := ⟨_, rfl⟩
  have hr1 := Tag.skip_ge Tag.vlB s.data.toList a
  have hr2 := Tag.skip_le Tag.vlB s.data.toList a (by rw [size_list]; omega)
  rw [size_list] at hr2
  rw [hr] at hr1 hr2
  rw [valP_bare ha hat h62 hq hr]
  have HR := hid hr
  have HS := hid (cut_list s a r)
  have HT := hid (cut_size s a r hr2 hr1)
  obtain ⟨R, hR⟩ : ∃ R, valE (Ent.decode true (Tag.cutP s.data.toList a r), r, true) = R := ⟨_, rfl⟩
  rw [hR]
  have HF := hid hR
  obtain ⟨l, hl⟩ : ∃ l, s.data.toList = l := ⟨_, rfl⟩
  rw [hl] at HL HZ HR HS HF
  clear hR hat ha h62 hr hq hqn hl
  go_enter Tryz.func40, Tryz.ntmps40
  go_wp2_with fail
  refine HB.out.mono ?_
  rintro e w1 ⟨rfl, rfl⟩
  go_wp2
  go_loopg [8] s.size (fun g iv wr => ∃ k : Nat, k + g = s.size + a ∧ a ≤ k ∧ k ≤ s.size ∧ iv = .int .i64 k ∧ Hid (Tag.skip Tag.vlB l k = r) ∧ Below w.heap.size w wr)
  case atStart => exact ⟨a, by omega, by omega, by omega, rfl, HR, Below.refl _ _⟩
  case round =>
    obtain ⟨k, hk, hka, hks, rfl, hI, hbw⟩ := hrel
    have hszr := hbw.size
    have q1 : ((a : Int)).toNat = a := by omega
    have q2 : ((k : Int)).toNat = k := by omega
    have q3 : (0 : Int) ≤ (a : Int) := by omega
    have q4 : (a : Int) ≤ (k : Int) := by omega
    have q5 : (0 : Int) ≤ (k : Int) := by omega
    have q6 : (k : Int) ≤ (s.size : Int) := by omega
    have q7 : k ≤ s.size := hks
    by_cases hlt : k < s.size
    · have d1 : decide (k < s.size) = true := decide_eq_true hlt
      have hltI : (k : Int) < (s.size : Int) := by omega
      have hat := HL.out k hlt
      obtain ⟨d, hd⟩ : ∃ d, s[k]'hlt = d := ⟨_, rfl⟩
      rw [hd] at hat
      have hd256 := d.toNat_lt
      have HP := rspace_any d.toNat (by omega) wr
      cases hsp : spaceN d.toNat with
      | true =>
        rw [hsp] at HP
        have HP := hid HP
        have hkr := (Tag.skip_stop hat (show Tag.vlB d = false by unfold Tag.vlB Tag.spB; rw [hsp]; rfl)).symm.trans hI.out
        subst hkr
        clear hI hat hsp HR HL HZ
        go_wp2_with fail
        refine HP.out.mono ?_
        rintro e w1 ⟨rfl, rfl⟩
        go_wp2_with fail
        refine (HD (s.extract a k) _ (by have := HT.out; omega)).mono ?_
        rw [HS.out]
        rintro e w2 ⟨rfl, b4⟩
        have b5 := hid (hbw.trans (b4.mono hszr))
        clear b4 hbw hszr
        go_wp2
        go_returns
        exact ⟨HF.out, b5.out⟩
      | false =>
        rw [hsp] at HP
        have HP := hid HP
        by_cases h62 : d.toNat = 62
        · have n1 : (((d.toNat : Nat) : Int) != 62) = false := by simp [h62]
          have hkr := (Tag.skip_stop hat (show Tag.vlB d = false by unfold Tag.vlB Tag.spB; rw [hsp, h62]; rfl)).symm.trans hI.out
          subst hkr
          clear hI hat hsp HR HL HZ h62
          go_wp2_with fail
          refine HP.out.mono ?_
          rintro e w1 ⟨rfl, rfl⟩
          go_wp2_with fail
          refine (HD (s.extract a k) _ (by have := HT.out; omega)).mono ?_
          rw [HS.out]
          rintro e w2 ⟨rfl, b4⟩
          have b5 := hid (hbw.trans (b4.mono hszr))
          clear b4 hbw hszr
          go_wp2
          go_returns
          exact ⟨HF.out, b5.out⟩
        · have n1 : (((d.toNat : Nat) : Int) != 62) = true := by simp; omega
          have c2 : (d.toNat != 62) = true := by simpa using h62
          have HN := hid ((Tag.skip_go hat (show Tag.vlB d = true by unfold Tag.vlB Tag.spB; rw [hsp, c2]; rfl)).symm.trans hI.out)
          clear hat hI hsp h62 c2
          go_wp2_with fail
          refine HP.out.mono ?_
          rintro e w1 ⟨rfl, rfl⟩
          go_wp2
          go_roundg (s.size + a - (k + 1))
          case measure => omega
          case rel => exact ⟨k + 1, by omega, by omega, by omega, by go_num, HN, hbw⟩
    · have d1 : decide (k < s.size) = false := decide_eq_false hlt
      have hltI : ¬ (k : Int) < (s.size : Int) := by omega
      have hkr := (Tag.skip_end (p := Tag.vlB) (l := l) (i := k) (by have := HZ.out; omega)).symm.trans hI.out
      subst hkr
      clear hI HR HL HZ
      go_wp2_with fail
      refine (HD (s.extract a k) _ (by have := HT.out; omega)).mono ?_
      rw [HS.out]
      rintro e w2 ⟨rfl, b4⟩
      have b5 := hid (hbw.trans (b4.mono hszr))
      clear b4 hbw hszr
      go_wp2
      go_returns
      exact ⟨HF.out, b5.out⟩
end Go.Proofs.YtgldgdopabmefaaGreatDoor
namespace Go.Proofs.YtgldgdopabmefaaGreatDoor
open Go.RowKit Go.Lib
set_option maxRecDepth 100000
set_option linter.unusedVariables false

set_option maxHeartbeats 4000000 in
theorem read_no (s : ByteArray) (i : Int) (w : World) (hs : s.size ≤ 500000) (hi : -9223372036854775808 ≤ i ∧ i ≤ 9223372036854775807) (hb : begI s.data.toList i = false) :
    Calls Tryz.prog 17 #[.string s, .int .i64 i] w fun e w' => e = .returned (.tuple #[tokV 0 [] none 0 0 false [], .int .i64 i, .bool false]) ∧ Below w.heap.size w w' := by
  have HB := fun W => begins_any s i W (by omega) hi
  simp only [hb] at HB
  have HB := hid HB
  clear hb
  go_enter Tryz.func17, Tryz.ntmps17
  go_wp2_with fail
  refine (HB.out _).mono ?_
  rintro e w1 ⟨rfl, rfl⟩
  go_wp2
  go_returns
  exact ⟨rfl, (Below.refl _ _).alloc (Nat.le_refl _) _⟩
end Go.Proofs.YtgldgdopabmefaaGreatDoor
