/- Walks over the reference of layer 6: passing over blanks, and names; whether a tag begins. Walks over the reference of layer 6: whether a tag begins. Walks over the reference of layer 6: a value. Walks over the reference of layer 6: Read. Walks over the reference of layer 6: Read where a tag begins. -/
import Derived.Test.YtojmffpkjnpnlaaDoorTagPl
import Derived.Test.YtojmffpkjnpnlaaDoorRefSpace
import Derived.Test.YtojmffpkjnpnlaaDoorRefLetter
import Derived.Test.YtojmffpkjnpnlaaDoorRefLower
import Derived.Test.YtojmffpkjnpnlaaDoorSameTokP
import Derived.Test.YtojmffpkjnpnlaaDoorAppT
import Derived.Test.YtojmffpkjnpnlaaDoorBlk
import Derived.Deep.LoopGhost
import Derived.Handy
namespace Go.Proofs.YtojmffpkjnpnlaaDoor
open Go.RowKit Go.Lib
set_option maxRecDepth 100000
set_option linter.unusedVariables false

theorem ret_int {k : IntKind} {a b : Int} (h : a = b) : Ending.returned (.int k a) = .returned (.int k b) := by rw [h]
theorem at_list (s : ByteArray) (k : Nat) (h : k < s.size) : s.data.toList[k]? = some (s[k]'h) := by
  rw [Array.getElem?_toList]
  exact Array.getElem?_eq_getElem h
set_option maxHeartbeats 1000000 in
theorem blanks_any (s : ByteArray) (i : Nat) (w : World) (hs : s.size ≤ 1000000) (hi : i ≤ s.size) :
    Calls Tryd.prog 24 #[.string s, .int .i64 i] w fun e w' => e = .returned (.int .i64 (Tag.skip Tag.spB s.data.toList i : Nat)) ∧ w = w' := by
  have HL := hid (at_list s)
  have HZ := hid (size_list s)
  obtain ⟨l, hl⟩ : ∃ l, s.data.toList = l := ⟨_, rfl⟩
  rw [hl] at HL HZ ⊢
  clear hl
  obtain ⟨r, hr⟩ : ∃ r, Tag.skip Tag.spB l i = r := ⟨_, rfl⟩
  rw [hr]
  have HR := hid hr
  clear hr
  go_enter Tryd.func24, Tryd.ntmps24
  go_wp2
  go_loopg [1] s.size (fun g iv wr => ∃ k : Nat, k + g = s.size + i ∧ k ≤ s.size ∧ iv = .int .i64 k ∧ Hid (Tag.skip Tag.spB l k = r) ∧ w = wr)
  case atStart => exact ⟨i, by omega, hi, rfl, HR, rfl⟩
  case round =>
    obtain ⟨k, hk, hks, rfl, hI, rfl⟩ := hrel
    by_cases hlt : k < s.size
    · have d1 : decide (k < s.size) = true := decide_eq_true hlt
      have hltI : (k : Int) < (s.size : Int) := by omega
      have hat := HL.out k hlt
      obtain ⟨c, hc⟩ : ∃ c, s[k]'hlt = c := ⟨_, rfl⟩
      rw [hc] at hat
      have hc256 := c.toNat_lt
      have HS := rspace_any c.toNat (by omega) w
      cases hp : spaceN c.toNat with
      | true =>
        have HN := hid ((Tag.skip_go hat (show Tag.spB c = true from hp)).symm.trans hI.out)
        rw [hp] at HS
        have HS := hid HS
        obtain ⟨n, hn⟩ : ∃ n, c.toNat = n := ⟨_, rfl⟩
        rw [hn] at HS hc256
        clear hp hat hI
        go_wp2_with fail
        refine HS.out.mono ?_
        rintro e w1 ⟨rfl, rfl⟩
        go_wp2
        go_roundg (s.size + i - (k + 1))
        case measure => omega
        case rel => exact ⟨k + 1, by omega, by omega, by go_num, HN, rfl⟩
      | false =>
        have HN := hid ((Tag.skip_stop hat (show Tag.spB c = false from hp)).symm.trans hI.out)
        rw [hp] at HS
        have HS := hid HS
        obtain ⟨n, hn⟩ : ∃ n, c.toNat = n := ⟨_, rfl⟩
        rw [hn] at HS hc256
        clear hp hat hI
        go_wp2_with fail
        refine HS.out.mono ?_
        rintro e w1 ⟨rfl, rfl⟩
        go_wp2
        go_ret
        exact ⟨ret_int (by have := HN.out; omega), rfl⟩
    · have d1 : decide (k < s.size) = false := decide_eq_false hlt
      have hltI : ¬ (k : Int) < (s.size : Int) := by omega
      have HN := hid ((Tag.skip_end (p := Tag.spB) (l := l) (i := k) (by have := HZ.out; omega)).symm.trans hI.out)
      clear hI
      go_wp2
      go_ret
      exact ⟨ret_int (by have := HN.out; omega), rfl⟩
set_option maxHeartbeats 2000000 in
theorem word_false (s : ByteArray) (i : Nat) (w : World) (hs : s.size ≤ 1000000) (hi : i ≤ s.size) :
    Calls Tryd.prog 23 #[.string s, .int .i64 i, .bool false] w fun e w' => e = .returned (.int .i64 (Tag.skip (Tag.wdB false) s.data.toList i : Nat)) ∧ w = w' := by
  have HL := hid (at_list s)
  have HZ := hid (size_list s)
  obtain ⟨l, hl⟩ : ∃ l, s.data.toList = l := ⟨_, rfl⟩
  rw [hl] at HL HZ ⊢
  clear hl
  obtain ⟨r, hr⟩ : ∃ r, Tag.skip (Tag.wdB false) l i = r := ⟨_, rfl⟩
  rw [hr]
  have HR := hid hr
  clear hr
  go_enter Tryd.func23, Tryd.ntmps23
  go_wp2
  go_loopg [1] s.size (fun g iv wr => ∃ k : Nat, k + g = s.size + i ∧ k ≤ s.size ∧ iv = .int .i64 k ∧ Hid (Tag.skip (Tag.wdB false) l k = r) ∧ w = wr)
  case atStart => exact ⟨i, by omega, hi, rfl, HR, rfl⟩
  case round =>
    obtain ⟨k, hk, hks, rfl, hI, rfl⟩ := hrel
    by_cases hlt : k < s.size
    · have d1 : decide (k < s.size) = true := decide_eq_true hlt
      have hltI : (k : Int) < (s.size : Int) := by omega
      have hat := HL.out k hlt
      obtain ⟨c, hc⟩ : ∃ c, s[k]'hlt = c := ⟨_, rfl⟩
      rw [hc] at hat
      have hc256 := c.toNat_lt
      have HS := rspace_any c.toNat (by omega) w
      cases hsp : spaceN c.toNat with
      | true =>
        rw [hsp] at HS
        have HS := hid HS
        have HN := hid ((Tag.skip_stop hat (show Tag.wdB false c = false by unfold Tag.wdB Tag.spB; rw [hsp]; rfl)).symm.trans hI.out)
        clear hat hI hsp
        go_wp2_with fail
        refine HS.out.mono ?_
        rintro e w1 ⟨rfl, rfl⟩
        go_wp2
        go_ret
        exact ⟨ret_int (by have := HN.out; omega), rfl⟩
      | false =>
        rw [hsp] at HS
        have HS := hid HS
        by_cases h47 : c.toNat = 47
        · have m1 : ((c.toNat : Nat) : Int) = 47 := by omega
          have b1 : (((c.toNat : Nat) : Int) != 47) = false := by simp [h47]
          have HN := hid ((Tag.skip_stop hat (show Tag.wdB false c = false by unfold Tag.wdB Tag.spB; rw [hsp, h47]; rfl)).symm.trans hI.out)
          clear hat hI hsp
          clear h47 m1
          go_wp2_with fail
          refine HS.out.mono ?_
          rintro e w1 ⟨rfl, rfl⟩
          go_wp2
          go_ret
          exact ⟨ret_int (by have := HN.out; omega), rfl⟩
        have b1 : (((c.toNat : Nat) : Int) != 47) = true := by simp; omega
        have c1 : (c.toNat != 47) = true := by simpa using h47
        by_cases h62 : c.toNat = 62
        · have b2 : (((c.toNat : Nat) : Int) != 62) = false := by simp [h62]
          have HN := hid ((Tag.skip_stop hat (show Tag.wdB false c = false by unfold Tag.wdB Tag.spB; rw [hsp, c1, h62]; rfl)).symm.trans hI.out)
          clear hat hI hsp
          clear h47 h62 c1
          go_wp2_with fail
          refine HS.out.mono ?_
          rintro e w1 ⟨rfl, rfl⟩
          go_wp2
          go_ret
          exact ⟨ret_int (by have := HN.out; omega), rfl⟩
        have b2 : (((c.toNat : Nat) : Int) != 62) = true := by simp; omega
        have c2 : (c.toNat != 62) = true := by simpa using h62
        have HN := hid ((Tag.skip_go hat (show Tag.wdB false c = true by unfold Tag.wdB Tag.spB; rw [hsp, c1, c2]; rfl)).symm.trans hI.out)
        clear hat hI hsp
        clear h47 h62 c1 c2
        go_wp2_with fail
        refine HS.out.mono ?_
        rintro e w1 ⟨rfl, rfl⟩
        go_wp2
        go_roundg (s.size + i - (k + 1))
        case measure => omega
        case rel => exact ⟨k + 1, by omega, by omega, by go_num, HN, rfl⟩
    · have d1 : decide (k < s.size) = false := decide_eq_false hlt
      have hltI : ¬ (k : Int) < (s.size : Int) := by omega
      have HN := hid ((Tag.skip_end (p := Tag.wdB false) (l := l) (i := k) (by have := HZ.out; omega)).symm.trans hI.out)
      clear hI
      go_wp2
      go_ret
      exact ⟨ret_int (by have := HN.out; omega), rfl⟩
set_option maxHeartbeats 2000000 in
theorem word_true (s : ByteArray) (i : Nat) (w : World) (hs : s.size ≤ 1000000) (hi : i ≤ s.size) :
    Calls Tryd.prog 23 #[.string s, .int .i64 i, .bool true] w fun e w' => e = .returned (.int .i64 (Tag.skip (Tag.wdB true) s.data.toList i : Nat)) ∧ w = w' := by
  have HL := hid (at_list s)
  have HZ := hid (size_list s)
  obtain ⟨l, hl⟩ : ∃ l, s.data.toList = l := ⟨_, rfl⟩
  rw [hl] at HL HZ ⊢
  clear hl
  obtain ⟨r, hr⟩ : ∃ r, Tag.skip (Tag.wdB true) l i = r := ⟨_, rfl⟩
  rw [hr]
  have HR := hid hr
  clear hr
  go_enter Tryd.func23, Tryd.ntmps23
  go_wp2
  go_loopg [1] s.size (fun g iv wr => ∃ k : Nat, k + g = s.size + i ∧ k ≤ s.size ∧ iv = .int .i64 k ∧ Hid (Tag.skip (Tag.wdB true) l k = r) ∧ w = wr)
  case atStart => exact ⟨i, by omega, hi, rfl, HR, rfl⟩
  case round =>
    obtain ⟨k, hk, hks, rfl, hI, rfl⟩ := hrel
    by_cases hlt : k < s.size
    · have d1 : decide (k < s.size) = true := decide_eq_true hlt
      have hltI : (k : Int) < (s.size : Int) := by omega
      have hat := HL.out k hlt
      obtain ⟨c, hc⟩ : ∃ c, s[k]'hlt = c := ⟨_, rfl⟩
      rw [hc] at hat
      have hc256 := c.toNat_lt
      have HS := rspace_any c.toNat (by omega) w
      cases hsp : spaceN c.toNat with
      | true =>
        rw [hsp] at HS
        have HS := hid HS
        have HN := hid ((Tag.skip_stop hat (show Tag.wdB true c = false by unfold Tag.wdB Tag.spB; rw [hsp]; rfl)).symm.trans hI.out)
        clear hat hI hsp
        go_wp2_with fail
        refine HS.out.mono ?_
        rintro e w1 ⟨rfl, rfl⟩
        go_wp2
        go_ret
        exact ⟨ret_int (by have := HN.out; omega), rfl⟩
      | false =>
        rw [hsp] at HS
        have HS := hid HS
        by_cases h47 : c.toNat = 47
        · have m1 : ((c.toNat : Nat) : Int) = 47 := by omega
          have b1 : (((c.toNat : Nat) : Int) != 47) = false := by simp [h47]
          have HN := hid ((Tag.skip_stop hat (show Tag.wdB true c = false by unfold Tag.wdB Tag.spB; rw [hsp, h47]; rfl)).symm.trans hI.out)
          clear hat hI hsp
          clear h47 m1
          go_wp2_with fail
          refine HS.out.mono ?_
          rintro e w1 ⟨rfl, rfl⟩
          go_wp2
          go_ret
          exact ⟨ret_int (by have := HN.out; omega), rfl⟩
        have b1 : (((c.toNat : Nat) : Int) != 47) = true := by simp; omega
        have c1 : (c.toNat != 47) = true := by simpa using h47
        by_cases h62 : c.toNat = 62
        · have b2 : (((c.toNat : Nat) : Int) != 62) = false := by simp [h62]
          have HN := hid ((Tag.skip_stop hat (show Tag.wdB true c = false by unfold Tag.wdB Tag.spB; rw [hsp, c1, h62]; rfl)).symm.trans hI.out)
          clear hat hI hsp
          clear h47 h62 c1
          go_wp2_with fail
          refine HS.out.mono ?_
          rintro e w1 ⟨rfl, rfl⟩
          go_wp2
          go_ret
          exact ⟨ret_int (by have := HN.out; omega), rfl⟩
        have b2 : (((c.toNat : Nat) : Int) != 62) = true := by simp; omega
        have c2 : (c.toNat != 62) = true := by simpa using h62
        by_cases h61 : c.toNat = 61
        · have b3 : (((c.toNat : Nat) : Int) != 61) = false := by simp [h61]
          have HN := hid ((Tag.skip_stop hat (show Tag.wdB true c = false by unfold Tag.wdB Tag.spB; rw [hsp, c1, c2, h61]; rfl)).symm.trans hI.out)
          clear hat hI hsp
          clear h47 h62 h61 c1 c2
          go_wp2_with fail
          refine HS.out.mono ?_
          rintro e w1 ⟨rfl, rfl⟩
          go_wp2
          go_ret
          exact ⟨ret_int (by have := HN.out; omega), rfl⟩
        have b3 : (((c.toNat : Nat) : Int) != 61) = true := by simp; omega
        have c3 : (c.toNat != 61) = true := by simpa using h61
        have HN := hid ((Tag.skip_go hat (show Tag.wdB true c = true by unfold Tag.wdB Tag.spB; rw [hsp, c1, c2, c3]; rfl)).symm.trans hI.out)
        clear hat hI hsp
        clear h47 h62 h61 c1 c2 c3
        go_wp2_with fail
        refine HS.out.mono ?_
        rintro e w1 ⟨rfl, rfl⟩
        go_wp2
        go_roundg (s.size + i - (k + 1))
        case measure => omega
        case rel => exact ⟨k + 1, by omega, by omega, by go_num, HN, rfl⟩
    · have d1 : decide (k < s.size) = false := decide_eq_false hlt
      have hltI : ¬ (k : Int) < (s.size : Int) := by omega
      have HN := hid ((Tag.skip_end (p := Tag.wdB true) (l := l) (i := k) (by have := HZ.out; omega)).symm.trans hI.out)
      clear hI
      go_wp2
      go_ret
      exact ⟨ret_int (by have := HN.out; omega), rfl⟩
end Go.Proofs.YtojmffpkjnpnlaaDoor
namespace Go.Proofs.YtojmffpkjnpnlaaDoor
open Go.RowKit Go.Lib
set_option maxRecDepth 100000
set_option linter.unusedVariables false

/-- A tag begins at i, whatever number that is. -/
def begI (l : List UInt8) (i : Int) : Bool := decide (0 ≤ i) && Tag.begB l i.toNat
theorem begI_neg {l : List UInt8} {i : Int} (h : i < 0) : begI l i = false := by unfold begI; rw [decide_eq_false (by omega)]; rfl
theorem begI_nat (l : List UInt8) (n : Nat) : begI l (n : Int) = Tag.begB l n := by unfold begI; rw [decide_eq_true (by omega)]; rfl
theorem begB_short {l : List UInt8} {n : Nat} (h : l.length ≤ n + 1) : Tag.begB l n = false := by unfold Tag.begB; rw [decide_eq_false (by omega)]; rfl
theorem begB_other {l : List UInt8} {n : Nat} (h : U8.B l n ≠ 60) : Tag.begB l n = false := by
  unfold Tag.begB
  rw [show (U8.B l n == 60) = false by simpa using h]
  simp
theorem begB_name {l : List UInt8} {n : Nat} (h : n + 1 < l.length) (h0 : U8.B l n = 60) (h1 : U8.B l (n + 1) ≠ 47) : Tag.begB l n = letterN (U8.B l (n + 1)) := by
  unfold Tag.begB
  rw [decide_eq_true h, h0, if_neg h1]
  rfl
theorem begB_end {l : List UInt8} {n : Nat} (h : n + 1 < l.length) (h0 : U8.B l n = 60) (h1 : U8.B l (n + 1) = 47) : Tag.begB l n = (decide (n + 2 < l.length) && letterN (U8.B l (n + 2))) := by
  unfold Tag.begB
  rw [decide_eq_true h, h0, if_pos h1]
  rfl
set_option maxHeartbeats 2000000 in
theorem begins_any (s : ByteArray) (i : Int) (w : World) (hs : s.size ≤ 1000000) (hi : -9223372036854775808 ≤ i ∧ i ≤ 9223372036854775807) :
    Calls Tryd.prog 13 #[.string s, .int .i64 i] w fun e w' => e = .returned (.bool (begI s.data.toList i)) ∧ w = w' := by
  obtain ⟨i1, i2⟩ := hi
  by_cases hneg : i < 0
  · rw [begI_neg hneg]
    have d0 : decide (i < 0) = true := decide_eq_true hneg
    go_enter Tryd.func13, Tryd.ntmps13
    go_wp2
    go_ret
    exact ⟨rfl, rfl⟩
  obtain ⟨n, rfl⟩ : ∃ n : Nat, i = n := ⟨i.toNat, by omega⟩
  rw [begI_nat]
  have hsl := size_list s
  by_cases hlen : s.size ≤ n + 1
  · rw [begB_short (by omega)]
    have d1 : decide ((s.size : Int) - 1 ≤ (n : Int)) = true := decide_eq_true (by omega)
    have HSL := hid hsl
    clear hsl
    go_enter Tryd.func13, Tryd.ntmps13
    go_wp2
    go_ret
    exact ⟨rfl, rfl⟩
  have d1 : decide ((s.size : Int) - 1 ≤ (n : Int)) = false := decide_eq_false (by omega)
  have hn0 : n < s.size := by omega
  have hn1 : n + 1 < s.size := by omega
  have g0 := get_of s n hn0
  have g1 := get_of s (n + 1) hn1
  obtain ⟨c0, hc0⟩ : ∃ c, s[n]'hn0 = c := ⟨_, rfl⟩
  obtain ⟨c1, hc1⟩ : ∃ c, s[n + 1]'hn1 = c := ⟨_, rfl⟩
  rw [hc0] at g0
  rw [hc1] at g1
  have k0 := c0.toNat_lt
  have k1 := c1.toNat_lt
  have q1 : ((n : Int) + 1).toNat = n + 1 := by omega
  have q2 : ((n : Int) + 2).toNat = n + 2 := by omega
  by_cases h60 : c0.toNat = 60
  · have b0 : (((c0.toNat : Nat) : Int) != 60) = false := by simp [h60]
    by_cases h47 : c1.toNat = 47
    · have b1 : (((c1.toNat : Nat) : Int) == 47) = true := by simp [h47]
      rw [begB_end (by omega) (by omega) (by omega)]
      by_cases h2 : n + 2 < s.size
      · have g2 := get_of s (n + 2) h2
        obtain ⟨c2, hc2⟩ : ∃ c, s[n + 2]'h2 = c := ⟨_, rfl⟩
        rw [hc2] at g2
        have k2 := c2.toNat_lt
        have HS := hid (rletter_any c2.toNat (by omega) w)
        have HR := hid (show (decide (n + 2 < s.data.toList.length) && letterN (U8.B s.data.toList (n + 2))) = letterN c2.toNat by rw [decide_eq_true (by omega), ← g2]; rfl)
        rw [HR.out]
        have d2 : decide ((n : Int) + 2 < (s.size : Int)) = true := decide_eq_true (by omega)
        have d2I : (n : Int) + 2 < (s.size : Int) := by omega
        generalize letterN c2.toNat = r at *
        have HG := hid g0
        have HG1 := hid g1
        have HG2 := hid g2
        have HSL := hid hsl
        clear g0 g1 g2 hsl h60 h47
        go_enter Tryd.func13, Tryd.ntmps13
        go_wp2_with fail
        refine HS.out.mono ?_
        rintro e w1 ⟨rfl, rfl⟩
        go_wp2
        go_ret
        exact ⟨rfl, rfl⟩
      · have d2 : decide ((n : Int) + 2 < (s.size : Int)) = false := decide_eq_false (by omega)
        have d2I : ¬ (n : Int) + 2 < (s.size : Int) := by omega
        rw [decide_eq_false (by omega), Bool.false_and]
        clear g0 g1 hsl h60 h47
        go_enter Tryd.func13, Tryd.ntmps13
        go_wp2
        go_ret
        exact ⟨rfl, rfl⟩
    · have b1 : (((c1.toNat : Nat) : Int) == 47) = false := by simp; omega
      rw [begB_name (by omega) (by omega) (by omega), ← g1]
      have HS := hid (rletter_any c1.toNat (by omega) w)
      generalize letterN c1.toNat = r at *
      clear g0 g1 hsl h60 h47
      go_enter Tryd.func13, Tryd.ntmps13
      go_wp2_with fail
      refine HS.out.mono ?_
      rintro e w1 ⟨rfl, rfl⟩
      go_wp2
      go_ret
      exact ⟨rfl, rfl⟩
  · have b0 : (((c0.toNat : Nat) : Int) != 60) = true := by simp; omega
    rw [begB_other (by omega)]
    clear g0 g1 hsl h60
    go_enter Tryd.func13, Tryd.ntmps13
    go_wp2
    go_ret
    exact ⟨rfl, rfl⟩
end Go.Proofs.YtojmffpkjnpnlaaDoor
namespace Go.Proofs.YtojmffpkjnpnlaaDoor
open Go.RowKit Go.Lib
set_option maxRecDepth 100000
set_option linter.unusedVariables false

/-- What Decode of an attribute's value answers. -/
def DecA : Prop := ∀ (x : ByteArray) (w : World), x.size ≤ 500000 → Calls Tryd.prog 37 #[.string x, .bool true] w fun e w' => e = .returned (.string ⟨(Ent.decode true x.data.toList).toArray⟩) ∧ Below w.heap.size w w'
def valE (p : List UInt8 × Nat × Bool) : Ending := .returned (.tuple #[.string ⟨p.1.toArray⟩, .int .i64 (p.2.1 : Nat), .bool p.2.2])
theorem cut_list (s : ByteArray) (a b : Nat) : (s.extract a b).data.toList = Tag.cutP s.data.toList a b := by
  rw [extract_data]; rfl
theorem cut_size (s : ByteArray) (a b : Nat) (hb : b ≤ s.size) (h : a ≤ b) : (s.extract a b).size = b - a := by
  rw [size_eq, cut_list]; unfold Tag.cutP; rw [List.length_take, List.length_drop, size_list]; omega

theorem valP_none {l : List UInt8} {i a : Nat} (h : Tag.skip Tag.spB l i = a) (h1 : l[a]? = none) : Tag.valP l i = ([], a, false) := by
  unfold Tag.valP; simp only [h, h1]
theorem valP_gt {l : List UInt8} {i a : Nat} {c : UInt8} (h : Tag.skip Tag.spB l i = a) (h1 : l[a]? = some c) (hc : c.toNat = 62) : Tag.valP l i = ([], a, true) := by
  unfold Tag.valP; simp only [h, h1, hc, if_true]
theorem valP_quote {l : List UInt8} {i a k : Nat} {c : UInt8} (h : Tag.skip Tag.spB l i = a) (h1 : l[a]? = some c) (hc : c.toNat = 34 ∨ c.toNat = 39) (hk : Tag.skip (Tag.qtB c) l (a + 1) = k) :
    Tag.valP l i = if k = l.length then ([], k, false) else (Ent.decode true (Tag.cutP l (a + 1) k), k + 1, true) := by
  unfold Tag.valP
  have n62 : ¬ c.toNat = 62 := by omega
  simp only [h, h1, hk, if_neg n62, if_pos hc]
theorem valP_bare {l : List UInt8} {i a k : Nat} {c : UInt8} (h : Tag.skip Tag.spB l i = a) (h1 : l[a]? = some c) (n62 : ¬ c.toNat = 62) (hc : ¬ (c.toNat = 34 ∨ c.toNat = 39)) (hk : Tag.skip Tag.vlB l a = k) :
    Tag.valP l i = (Ent.decode true (Tag.cutP l a k), k, true) := by
  unfold Tag.valP
  simp only [h, h1, hk, if_neg n62, if_neg hc]

set_option maxHeartbeats 4000000 in
theorem value_any (HD : DecA) (s : ByteArray) (i : Nat) (w : World) (hs : s.size ≤ 500000) (hi : i ≤ s.size) :
    Calls Tryd.prog 25 #[.string s, .int .i64 i] w fun e w' => e = valE (Tag.valP s.data.toList i) ∧ Below w.heap.size w w' := by
  have HB := blanks_any s i w (by omega) hi
  have ha2 := Tag.skip_le Tag.spB s.data.toList i (by rw [size_list]; exact hi)
  rw [size_list] at ha2
  obtain ⟨a, ha⟩ : ∃ a, Tag.skip Tag.spB s.data.toList i = a := ⟨_, rfl⟩
  rw [ha] at HB ha2
  have HB := hid HB
  by_cases hend : a = s.size
  · subst hend
    have hn : s.data.toList[s.size]? = none := List.getElem?_eq_none (by rw [size_list]; omega)
    rw [valP_none ha hn]
    have d0 : ((s.size : Int) == (s.size : Int)) = true := beq_self_eq_true _
    clear hn ha
    go_enter Tryd.func25, Tryd.ntmps25
    go_wp2_with fail
    refine HB.out.mono ?_
    rintro e w1 ⟨rfl, rfl⟩
    go_wp2
    go_returns
    exact ⟨rfl, Below.refl _ _⟩
  have hlt : a < s.size := by omega
  have hat := at_list s a hlt
  obtain ⟨c, hc⟩ : ∃ c, s[a]'hlt = c := ⟨_, rfl⟩
  rw [hc] at hat
  have hc256 := c.toNat_lt
  have d0 : ((a : Int) == (s.size : Int)) = false := by simp; omega
  by_cases h62 : c.toNat = 62
  · rw [valP_gt ha hat h62]
    have b1 : (((c.toNat : Nat) : Int) == 62) = true := by simp [h62]
    clear hat ha h62
    go_enter Tryd.func25, Tryd.ntmps25
    go_wp2_with fail
    refine HB.out.mono ?_
    rintro e w1 ⟨rfl, rfl⟩
    go_wp2
    go_returns
    exact ⟨rfl, Below.refl _ _⟩
  have b1 : (((c.toNat : Nat) : Int) == 62) = false := by simp; omega
  have HL := hid (at_list s)
  have HZ := hid (size_list s)
  by_cases hq : c.toNat = 34 ∨ c.toNat = 39
  · have hqI : (((c.toNat : Nat) : Int) == 34) = true ∨ (((c.toNat : Nat) : Int) == 34) = false ∧ (((c.toNat : Nat) : Int) == 39) = true := by
      rcases hq with h | h
      · left; simp [h]
      · right; simp [h]
    obtain ⟨r, hr⟩ : ∃ r, Tag.skip (Tag.qtB c) s.data.toList (a + 1) = r := ⟨_, rfl⟩
    have hr1 := Tag.skip_ge (Tag.qtB c) s.data.toList (a + 1)
    have hr2 := Tag.skip_le (Tag.qtB c) s.data.toList (a + 1) (by rw [size_list]; omega)
    rw [size_list] at hr2
    rw [hr] at hr1 hr2
    rw [valP_quote ha hat hq hr, size_list]
    obtain ⟨R, hR⟩ : ∃ R, valE (if r = s.size then ([], r, false) else (Ent.decode true (Tag.cutP s.data.toList (a + 1) r), r + 1, true)) = R := ⟨_, rfl⟩
    rw [hR]
    have HE := hid hR
    clear hR
    have HR := hid hr
    have HS := hid (cut_list s (a + 1) r)
    have HT := hid (cut_size s (a + 1) r hr2 hr1)
    obtain ⟨l, hl⟩ : ∃ l, s.data.toList = l := ⟨_, rfl⟩
    rw [hl] at HL HZ HR HS HE
    clear hat ha h62 hr hq hl
    go_enter Tryd.func25, Tryd.ntmps25
    go_wp2_with fail
    refine HB.out.mono ?_
    rintro e w1 ⟨rfl, rfl⟩
    have q1 : ((a : Int) + 1).toNat = a + 1 := by omega
    rcases hqI with b2 | ⟨b2, b3⟩
    all_goals
      go_wp2
      go_loopg [7] s.size (fun g iv wr => ∃ k : Nat, k + g = s.size + (a + 1) ∧ a + 1 ≤ k ∧ k ≤ s.size ∧ iv = .int .i64 k ∧ Hid (Tag.skip (Tag.qtB c) l k = r) ∧ Below w.heap.size w wr)
      case atStart => exact ⟨a + 1, by omega, by omega, by omega, by go_num, HR, Below.refl _ _⟩
      case round =>
        obtain ⟨k, hk, hka, hks, rfl, hI, hbw⟩ := hrel
        have hszr := hbw.size
        by_cases hlt : k < s.size
        · have d1 : decide (k < s.size) = true := decide_eq_true hlt
          have hltI : (k : Int) < (s.size : Int) := by omega
          have hat := HL.out k hlt
          obtain ⟨d, hd⟩ : ∃ d, s[k]'hlt = d := ⟨_, rfl⟩
          rw [hd] at hat
          have hd256 := d.toNat_lt
          by_cases hdc : d = c
          · have n1 : (((d.toNat : Nat) : Int) != ((c.toNat : Nat) : Int)) = false := by rw [hdc]; simp
            have hkr := (Tag.skip_stop hat (show Tag.qtB c d = false by unfold Tag.qtB; rw [hdc]; simp)).symm.trans hI.out
            subst hkr
            clear hI hat hdc HR HL HZ
            have hne : ¬ k = s.size := by omega
            have e1 : ((k : Int) == (s.size : Int)) = false := by simp; omega
            have HF := hid (show valE (Ent.decode true (Tag.cutP l (a + 1) k), k + 1, true) = R by rw [← HE.out, if_neg hne])
            clear HE
            have q2 : ((k : Int)).toNat = k := by omega
            have q3 : (0 : Int) ≤ (a : Int) + 1 := by omega
            have q4 : (a : Int) + 1 ≤ (k : Int) := by omega
            have q5 : (0 : Int) ≤ (k : Int) := by omega
            have q6 : (k : Int) ≤ (s.size : Int) := by omega
            have q7 : k ≤ s.size := hks
            go_wp2
            go_quiet (fail)
            go_wp2_with fail
            refine (HD (s.extract (a + 1) k) _ (by have := HT.out; omega)).mono ?_
            rw [HS.out]
            rintro e w2 ⟨rfl, b4⟩
            have b5 := hid ((bel_drewN hbw nq).trans (b4.mono hszr))
            clear b4 hbw hszr
            go_wp2
            go_returns
            exact ⟨HF.out, b5.out⟩
          · have n1 : (((d.toNat : Nat) : Int) != ((c.toNat : Nat) : Int)) = true := by
              rw [bne_iff_ne]
              intro h
              exact hdc (UInt8.toNat_inj.1 (by omega))
            have HN := hid ((Tag.skip_go hat (show Tag.qtB c d = true by unfold Tag.qtB; rw [bne_iff_ne]; exact hdc)).symm.trans hI.out)
            clear hat hI hdc
            go_wp2
            go_quiet (fail)
            go_wp2
            go_roundg (s.size + (a + 1) - (k + 1))
            case measure => omega
            case rel => exact ⟨k + 1, by omega, by omega, by omega, by go_num, HN, bel_drewN hbw _⟩
        · have d1 : decide (k < s.size) = false := decide_eq_false hlt
          have hltI : ¬ (k : Int) < (s.size : Int) := by omega
          have hkr := (Tag.skip_end (p := Tag.qtB c) (l := l) (i := k) (by have := HZ.out; omega)).symm.trans hI.out
          subst hkr
          have hke : k = s.size := by omega
          subst hke
          clear hI HR HL HZ
          have e1 : ((s.size : Int) == (s.size : Int)) = true := beq_self_eq_true _
          have HF := hid (show valE ([], s.size, false) = R by rw [← HE.out, if_pos rfl])
          clear HE
          go_wp2
          go_quiet (fail)
          go_wp2
          go_returns
          exact ⟨HF.out, bel_drewN hbw _⟩
  have hqn := hq
  have b2 : (((c.toNat : Nat) : Int) == 34) = false := by simp; omega
  have b3 : (((c.toNat : Nat) : Int) == 39) = false := by simp; omega
  obtain ⟨r, hr⟩ : ∃ r, Tag.skip Tag.vlB s.data.toList a = r := ⟨_, rfl⟩
  have hr1 := Tag.skip_ge Tag.vlB s.data.toList a
  have hr2 := Tag.skip_le Tag.vlB s.data.toList a (by rw [size_list]; omega)
  rw [size_list] at hr2
  rw [hr] at hr1 hr2
  rw [valP_bare ha hat h62 hq hr]
  have HR := hid hr
  have HS := hid (cut_list s a r)
  have HT := hid (cut_size s a r hr2 hr1)
  obtain ⟨R, hR⟩ : ∃ R, valE (Ent.decode true (Tag.cutP s.data.toList a r), r, true) = R := ⟨_, rfl⟩
  rw [hR]
  have HF := hid hR
  obtain ⟨l, hl⟩ : ∃ l, s.data.toList = l := ⟨_, rfl⟩
  rw [hl] at HL HZ HR HS HF
  clear hR hat ha h62 hr hq hqn hl
  go_enter Tryd.func25, Tryd.ntmps25
  go_wp2_with fail
  refine HB.out.mono ?_
  rintro e w1 ⟨rfl, rfl⟩
  go_wp2
  go_loopg [8] s.size (fun g iv wr => ∃ k : Nat, k + g = s.size + a ∧ a ≤ k ∧ k ≤ s.size ∧ iv = .int .i64 k ∧ Hid (Tag.skip Tag.vlB l k = r) ∧ Below w.heap.size w wr)
  case atStart => exact ⟨a, by omega, by omega, by omega, rfl, HR, Below.refl _ _⟩
  case round =>
    obtain ⟨k, hk, hka, hks, rfl, hI, hbw⟩ := hrel
    have hszr := hbw.size
    have q1 : ((a : Int)).toNat = a := by omega
    have q2 : ((k : Int)).toNat = k := by omega
    have q3 : (0 : Int) ≤ (a : Int) := by omega
    have q4 : (a : Int) ≤ (k : Int) := by omega
    have q5 : (0 : Int) ≤ (k : Int) := by omega
    have q6 : (k : Int) ≤ (s.size : Int) := by omega
    have q7 : k ≤ s.size := hks
    by_cases hlt : k < s.size
    · have d1 : decide (k < s.size) = true := decide_eq_true hlt
      have hltI : (k : Int) < (s.size : Int) := by omega
      have hat := HL.out k hlt
      obtain ⟨d, hd⟩ : ∃ d, s[k]'hlt = d := ⟨_, rfl⟩
      rw [hd] at hat
      have hd256 := d.toNat_lt
      have HP := rspace_any d.toNat (by omega) wr
      cases hsp : spaceN d.toNat with
      | true =>
        rw [hsp] at HP
        have HP := hid HP
        have hkr := (Tag.skip_stop hat (show Tag.vlB d = false by unfold Tag.vlB Tag.spB; rw [hsp]; rfl)).symm.trans hI.out
        subst hkr
        clear hI hat hsp HR HL HZ
        go_wp2_with fail
        refine HP.out.mono ?_
        rintro e w1 ⟨rfl, rfl⟩
        go_wp2_with fail
        refine (HD (s.extract a k) _ (by have := HT.out; omega)).mono ?_
        rw [HS.out]
        rintro e w2 ⟨rfl, b4⟩
        have b5 := hid (hbw.trans (b4.mono hszr))
        clear b4 hbw hszr
        go_wp2
        go_returns
        exact ⟨HF.out, b5.out⟩
      | false =>
        rw [hsp] at HP
        have HP := hid HP
        by_cases h62 : d.toNat = 62
        · have n1 : (((d.toNat : Nat) : Int) != 62) = false := by simp [h62]
          have hkr := (Tag.skip_stop hat (show Tag.vlB d = false by unfold Tag.vlB Tag.spB; rw [hsp, h62]; rfl)).symm.trans hI.out
          subst hkr
          clear hI hat hsp HR HL HZ h62
          go_wp2_with fail
          refine HP.out.mono ?_
          rintro e w1 ⟨rfl, rfl⟩
          go_wp2_with fail
          refine (HD (s.extract a k) _ (by have := HT.out; omega)).mono ?_
          rw [HS.out]
          rintro e w2 ⟨rfl, b4⟩
          have b5 := hid (hbw.trans (b4.mono hszr))
          clear b4 hbw hszr
          go_wp2
          go_returns
          exact ⟨HF.out, b5.out⟩
        · have n1 : (((d.toNat : Nat) : Int) != 62) = true := by simp; omega
          have c2 : (d.toNat != 62) = true := by simpa using h62
          have HN := hid ((Tag.skip_go hat (show Tag.vlB d = true by unfold Tag.vlB Tag.spB; rw [hsp, c2]; rfl)).symm.trans hI.out)
          clear hat hI hsp h62 c2
          go_wp2_with fail
          refine HP.out.mono ?_
          rintro e w1 ⟨rfl, rfl⟩
          go_wp2
          go_roundg (s.size + a - (k + 1))
          case measure => omega
          case rel => exact ⟨k + 1, by omega, by omega, by omega, by go_num, HN, hbw⟩
    · have d1 : decide (k < s.size) = false := decide_eq_false hlt
      have hltI : ¬ (k : Int) < (s.size : Int) := by omega
      have hkr := (Tag.skip_end (p := Tag.vlB) (l := l) (i := k) (by have := HZ.out; omega)).symm.trans hI.out
      subst hkr
      clear hI HR HL HZ
      go_wp2_with fail
      refine (HD (s.extract a k) _ (by have := HT.out; omega)).mono ?_
      rw [HS.out]
      rintro e w2 ⟨rfl, b4⟩
      have b5 := hid (hbw.trans (b4.mono hszr))
      clear b4 hbw hszr
      go_wp2
      go_returns
      exact ⟨HF.out, b5.out⟩
end Go.Proofs.YtojmffpkjnpnlaaDoor
namespace Go.Proofs.YtojmffpkjnpnlaaDoor
open Go.RowKit Go.Lib
set_option maxRecDepth 100000
set_option linter.unusedVariables false

/-- What Read answers, and where its attributes lie. -/
def ReadE (l : List UInt8) (i : Int) (n : Nat) (e : Ending) (w' : World) : Prop :=
  if begI l i = true then
    match Tag.readP l i.toNat with
    | none => e = .returned (.tuple #[tokV 0 [] none 0 0 false [], .int .i64 n, .bool false])
    | some (t, m) => ∃ a k c, e = .returned (.tuple #[tokV t.kind t.name a k c t.self [], .int .i64 m, .bool true]) ∧ IsA w' a k t.atts ∧ k ≤ l.length
  else e = .returned (.tuple #[tokV 0 [] none 0 0 false [], .int .i64 i, .bool false])
set_option maxHeartbeats 4000000 in
theorem read_no (s : ByteArray) (i : Int) (w : World) (hs : s.size ≤ 500000) (hi : -9223372036854775808 ≤ i ∧ i ≤ 9223372036854775807) (hb : begI s.data.toList i = false) :
    Calls Tryd.prog 9 #[.string s, .int .i64 i] w fun e w' => e = .returned (.tuple #[tokV 0 [] none 0 0 false [], .int .i64 i, .bool false]) ∧ Below w.heap.size w w' := by
  have HB := fun W => begins_any s i W (by omega) hi
  simp only [hb] at HB
  have HB := hid HB
  clear hb
  go_enter Tryd.func9, Tryd.ntmps9
  go_wp2_with fail
  refine (HB.out _).mono ?_
  rintro e w1 ⟨rfl, rfl⟩
  go_wp2
  go_returns
  exact ⟨rfl, (Below.refl _ _).alloc (Nat.le_refl _) _⟩
end Go.Proofs.YtojmffpkjnpnlaaDoor
namespace Go.Proofs.YtojmffpkjnpnlaaDoor
open Go.RowKit Go.Lib
set_option maxRecDepth 100000
set_option linter.unusedVariables false

/-- The token in work: the result's block H, the token's own block behind it. -/
structure TokW (w W : World) (H : Nat) (K : Int) (N : ByteArray) : Prop where
  below : Below w.heap.size w W
  res : BlkW W H #[.int .u8 0, .string ⟨#[]⟩, .slice none 0 0, .bool false, .string ⟨#[]⟩] 24
  tok : BlkW W (H + 1) #[.int .u8 K, .string N, .slice none 0 0, .bool false, .string ⟨#[]⟩] 24
  lt : w.heap.size ≤ H
section
variable {w W W' : World} {H : Nat} {K : Int} {N : ByteArray}
theorem TokW.below' (h : TokW w W H K N) (hb : Below W.heap.size W W') : TokW w W' H K N := ⟨h.below.trans (hb.mono h.below.size), h.res.below hb h.res.lt, h.tok.below hb h.tok.lt, h.lt⟩
theorem TokW.grown {row : Option Nat} (h : TokW w W H K N) (hg : W.grownBy W' row) (hr : ∀ g, row = some g → H + 2 ≤ g) : TokW w W' H K N :=
  ⟨h.below.grown hg h.below.size (fun k hk => by have := hr k hk; have := h.lt; omega), h.res.grow hg (fun e => by have := hr _ e.symm; omega), h.tok.grow hg (fun e => by have := hr _ e.symm; omega), h.lt⟩
theorem TokW.alloc (h : TokW w W H K N) (o : Obj) : TokW w (W.alloc o) H K N := ⟨h.below.alloc h.below.size o, h.res.alloc o, h.tok.alloc o, h.lt⟩
theorem TokW.cells (h : TokW w W H K N) : W.cell? ⟨H, 0, none⟩ = some (.int .u8 0) ∧ W.cell? ⟨H, 1, none⟩ = some (.string ⟨#[]⟩) ∧ W.cell? ⟨H, 2, none⟩ = some (.slice none 0 0) ∧ W.cell? ⟨H, 3, none⟩ = some (.bool false) ∧ W.cell? ⟨H, 4, none⟩ = some (.string ⟨#[]⟩) ∧
    W.cell? ⟨H + 1, 0, none⟩ = some (.int .u8 K) ∧ W.cell? ⟨H + 1, 1, none⟩ = some (.string N) ∧ W.cell? ⟨H + 1, 2, none⟩ = some (.slice none 0 0) ∧ W.cell? ⟨H + 1, 3, none⟩ = some (.bool false) ∧ W.cell? ⟨H + 1, 4, none⟩ = some (.string ⟨#[]⟩) :=
  ⟨h.res.cell 0, h.res.cell 1, h.res.cell 2, h.res.cell 3, h.res.cell 4, h.tok.cell 0, h.tok.cell 1, h.tok.cell 2, h.tok.cell 3, h.tok.cell 4⟩
theorem TokW.free (h : TokW w W H K N) : W.frozen? ⟨H, 0, none⟩ = false ∧ W.frozen? ⟨H, 1, none⟩ = false ∧ W.frozen? ⟨H, 2, none⟩ = false ∧ W.frozen? ⟨H, 3, none⟩ = false ∧ W.frozen? ⟨H, 4, none⟩ = false ∧
    W.frozen? ⟨H + 1, 0, none⟩ = false ∧ W.frozen? ⟨H + 1, 1, none⟩ = false ∧ W.frozen? ⟨H + 1, 2, none⟩ = false ∧ W.frozen? ⟨H + 1, 3, none⟩ = false ∧ W.frozen? ⟨H + 1, 4, none⟩ = false :=
  ⟨h.res.free 0, h.res.free 1, h.res.free 2, h.res.free 3, h.res.free 4, h.tok.free 0, h.tok.free 1, h.tok.free 2, h.tok.free 3, h.tok.free 4⟩
theorem TokW.drewN (h : TokW w W H K N) (n : Nat) : TokW w (W.drewN n) H K N := ⟨bel_drewN h.below n, h.res, h.tok, h.lt⟩
end
theorem TokW.far {w W : World} {H : Nat} {K : Int} {N : ByteArray} (h : TokW w W H K N) (p : Addr) (u : Value) (hp : H + 2 ≤ p.block) : TokW w (W.setCell p u) H K N :=
  ⟨h.below.setCell (by have := h.lt; omega) u, h.res.far p u (by omega), h.tok.far p u (by omega), h.lt⟩
theorem tok_store {w W : World} {H B : Nat} {a0 a1 a2 a3 a4 : Value} {T : TypeId} (h : BlkW W H #[a0, a1, a2, a3, a4] T) (hb : Below B w W) (hB : B ≤ H) (b0 b1 b2 b3 b4 : Value) :
    ∃ W', (((((W.setCell ⟨H, 0, none⟩ b0).setCell ⟨H, 1, none⟩ b1).setCell ⟨H, 2, none⟩ b2).setCell ⟨H, 3, none⟩ b3).setCell ⟨H, 4, none⟩ b4) = W' ∧
      W'.cell? ⟨H, 0, none⟩ = some b0 ∧ W'.cell? ⟨H, 1, none⟩ = some b1 ∧ W'.cell? ⟨H, 2, none⟩ = some b2 ∧ W'.cell? ⟨H, 3, none⟩ = some b3 ∧ W'.cell? ⟨H, 4, none⟩ = some b4 ∧ Below B w W' ∧ (∀ k, k ≠ H → W'.heap[k]? = W.heap[k]?) := by
  have h5 := ((((h.set_ 0 b0).set_ 1 b1).set_ 2 b2).set_ 3 b3).set_ 4 b4
  refine ⟨_, rfl, h5.cell 0, h5.cell 1, h5.cell 2, h5.cell 3, h5.cell 4, ((((hb.setCell hB b0).setCell hB b1).setCell hB b2).setCell hB b3).setCell hB b4, fun k hk => ?_⟩
  rw [Below.heap_setCell _ _ _ _ hk, Below.heap_setCell _ _ _ _ hk, Below.heap_setCell _ _ _ _ hk, Below.heap_setCell _ _ _ _ hk, Below.heap_setCell _ _ _ _ hk]
theorem own_is {w : World} {base : Nat} {ad : Option Addr} {n cp : Nat} {ls : List Tag.At} (h : w.ownsRow base 35 2 (.slice ad n cp) ls.length (pairL ls)) : IsA w ad n ls := by
  obtain ⟨a, cap, e, h1, _⟩ := own_isT' h
  cases e
  exact h1
/-- What the loop over attributes keeps. -/
structure LoopW (w W : World) (H : Nat) (K : Int) (N : ByteArray) (v : Value) (atts : List Tag.At) : Prop where
  tok : TokW w W H K N
  own : W.ownsRow (H + 2) 35 2 v atts.length (pairL atts)
theorem LoopW.below' {w W W' : World} {H : Nat} {K : Int} {N : ByteArray} {v : Value} {atts : List Tag.At} (h : LoopW w W H K N v atts) (hb : Below W.heap.size W W') : LoopW w W' H K N v atts := ⟨h.tok.below' hb, own_below h.own hb⟩
theorem addA_len (atts : List Tag.At) (n v : List UInt8) : (Tag.addA atts n v).length ≤ atts.length + 1 := by
  unfold Tag.addA; split
  · omega
  · rw [List.length_append]; simp
/-- What Read answers where a tag begins; the result is in block H. -/
def TagE (l : List UInt8) (i n : Nat) (e : Ending) (w' : World) : Prop :=
  match Tag.readP l i with
  | none => e = .returned (.tuple #[tokV 0 [] none 0 0 false [], .int .i64 n, .bool false])
  | some (t, m) => ∃ a k c, e = .returned (.tuple #[tokV t.kind t.name a k c t.self [], .int .i64 m, .bool true]) ∧ IsA w' a k t.atts ∧ k ≤ l.length
/-- The same out of the run over its attributes. -/
def TagR (R : Option (List Tag.At × Nat × Bool)) (K : Nat) (nm : List UInt8) (ln n : Nat) (e : Ending) (w' : World) : Prop :=
  match R with
  | none => e = .returned (.tuple #[tokV 0 [] none 0 0 false [], .int .i64 n, .bool false])
  | some (atts, m, sf) => ∃ a k c, e = .returned (.tuple #[tokV K nm a k c (K == 2 && sf) [], .int .i64 (m + 1 : Nat), .bool true]) ∧ IsA w' a k (if K = 2 then atts else []) ∧ k ≤ ln
end Go.Proofs.YtojmffpkjnpnlaaDoor
