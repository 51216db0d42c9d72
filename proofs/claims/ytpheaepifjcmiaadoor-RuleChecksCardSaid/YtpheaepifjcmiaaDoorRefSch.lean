/- Walks over the reference of layer 5: whether a scheme may be. -/
import Derived.Test.YtpheaepifjcmiaaDoorRefIn
import Derived.Test.YtpheaepifjcmiaaDoorRuleLead
import Derived.Test.YtpheaepifjcmiaaDoorLead
import Derived.Test.YtpheaepifjcmiaaDoorRefDigit
namespace Go.Proofs.YtpheaepifjcmiaaDoor
open Go.RowKit Go.Lib Rule
set_option maxRecDepth 100000
set_option linter.unusedVariables false

def FormT (l : List UInt8) (k : Nat) : Prop := ∀ i c, i < k → l[i]? = some c → formB i c = true
theorem FormT.next {l : List UInt8} {k : Nat} {c : UInt8} (h : FormT l k) (hc : l[k]? = some c) (hf : formB k c = true) : FormT l (k + 1) := by
  intro i d hi hd
  by_cases e : i = k
  · subst e
    rw [hc] at hd
    injection hd with hd
    rw [← hd]; exact hf
  · exact h i d (by omega) hd
theorem formB_small {i : Nat} {c : UInt8} (h : 97 ≤ c.toNat ∧ c.toNat ≤ 122) : formB i c = true := by
  unfold formB smallB; rw [decide_eq_true h]; rfl
theorem formB_not {i : Nat} {c : UInt8} (h : ¬ (97 ≤ c.toNat ∧ c.toNat ≤ 122)) : formB i c = (!(i == 0) && restB c) := by
  unfold formB smallB; rw [decide_eq_false h]; rfl
theorem restB_eq (c : UInt8) : restB c = (digitN c.toNat || decide (c.toNat = 43 ∨ c.toNat = 45 ∨ c.toNat = 46)) := rfl

set_option maxHeartbeats 4000000 in
theorem rscheme_any (l : List UInt8) (w : World) (hs : l.length ≤ 1000000) :
    Calls Tryd.prog 28 #[.string (bs l)] w fun e w' => e = .returned (.bool (leadB l)) ∧ w = w' := by
  obtain ⟨r, hr⟩ : ∃ r, leadB l = r := ⟨_, rfl⟩
  rw [hr]
  have HR := hid hr
  clear hr
  have hsz := bs_size l
  have hss : (bs l).size ≤ 1000000 := by omega
  by_cases h0 : l = []
  · have hb0 : (bs l).toList.isEmpty = true := by rw [bs_toList, h0]; rfl
    have hRf := hid (show r = false by rw [← HR.out, h0]; exact lead_nil)
    generalize bs l = s at *
    clear h0 hsz
    go_enter Tryd.func28, Tryd.ntmps28
    go_wp2
    go_ret
    exact ⟨ret_bool' hRf.out.symm, rfl⟩
  have hb0 : (bs l).toList.isEmpty = false := by rw [bs_toList]; cases l with | nil => exact absurd rfl h0 | cons _ _ => rfl
  by_cases h4 : 64 < l.length
  · have d4 : decide ((64 : Int) < ((bs l).size : Int)) = true := decide_eq_true (by omega)
    have hRf := hid (show r = false by rw [← HR.out]; exact lead_no (.inr h4))
    generalize bs l = s at *
    clear h0 hsz h4
    go_enter Tryd.func28, Tryd.ntmps28
    go_wp2
    go_ret
    exact ⟨ret_bool' hRf.out.symm, rfl⟩
  have d4 : decide ((64 : Int) < ((bs l).size : Int)) = false := decide_eq_false (by omega)
  by_cases h1 : l = js
  · have b1 : ((bs l).toList == [106, 97, 118, 97, 115, 99, 114, 105, 112, 116]) = true := beq_yes h1
    have hRf := hid (show r = false by rw [← HR.out]; exact lead_no (.inl (.inl h1)))
    generalize bs l = s at *
    clear h0 hsz h4 h1
    go_enter Tryd.func28, Tryd.ntmps28
    go_wp2
    go_ret
    exact ⟨ret_bool' hRf.out.symm, rfl⟩
  have b1 : ((bs l).toList == [106, 97, 118, 97, 115, 99, 114, 105, 112, 116]) = false := beq_no h1
  by_cases h2 : l = vb
  · have b2 : ((bs l).toList == [118, 98, 115, 99, 114, 105, 112, 116]) = true := beq_yes h2
    have hRf := hid (show r = false by rw [← HR.out]; exact lead_no (.inl (.inr (.inl h2))))
    generalize bs l = s at *
    clear h0 hsz h4 h1 h2
    go_enter Tryd.func28, Tryd.ntmps28
    go_wp2
    go_ret
    exact ⟨ret_bool' hRf.out.symm, rfl⟩
  have b2 : ((bs l).toList == [118, 98, 115, 99, 114, 105, 112, 116]) = false := beq_no h2
  by_cases h3 : l = da
  · have b3 : ((bs l).toList == [100, 97, 116, 97]) = true := beq_yes h3
    have hRf := hid (show r = false by rw [← HR.out]; exact lead_no (.inl (.inr (.inr h3))))
    generalize bs l = s at *
    clear h0 hsz h4 h1 h2 h3
    go_enter Tryd.func28, Tryd.ntmps28
    go_wp2
    go_ret
    exact ⟨ret_bool' hRf.out.symm, rfl⟩
  have b3 : ((bs l).toList == [100, 97, 116, 97]) = false := beq_no h3
  have HG := hid (fun (h : FormT l l.length) => lead_good h0 h1 h2 h3 (by omega) fun i c hi => h i c (List.getElem?_eq_some_iff.1 hi).1 hi)
  have HX : Hid ((bs l).data.toList = l) := hid rfl
  have HSZ := hid hsz
  generalize bs l = s at *
  clear h0 h1 h2 h3 h4 hsz
  go_enter Tryd.func28, Tryd.ntmps28
  go_wp2
  go_loopg [3] s.size (fun g iv wr => ∃ k : Nat, k + g = s.size ∧ iv = .int .i64 k ∧ Hid (FormT l k) ∧ w = wr)
  case atStart => exact ⟨0, by omega, rfl, hid (fun i c h => by omega), rfl⟩
  case round =>
    obtain ⟨k, hk, rfl, hI, rfl⟩ := hrel
    by_cases hlt : k < s.size
    · have d1 : decide (k < s.size) = true := decide_eq_true hlt
      have hltI : (k : Int) < (s.size : Int) := by omega
      obtain ⟨c, hc⟩ : ∃ c, s[k]'hlt = c := ⟨_, rfl⟩
      have hlk : l[k]? = some c := by
        rw [← HX.out, ← hc, Array.getElem?_toList]
        exact Array.getElem?_eq_getElem hlt
      have hc256 := c.toNat_lt
      have HD := rdigit_any c.toNat (by omega) w
      obtain ⟨n, hn⟩ : ∃ n, c.toNat = n := ⟨_, rfl⟩
      have hS := formB_small (i := k) (c := c)
      have hN := formB_not (i := k) (c := c)
      have hRe := restB_eq c
      rw [hn] at HD hS hN hc256 hRe
      rcases (show (97 ≤ n ∧ n ≤ 122) ∨ n < 97 ∨ 122 < n by omega) with ⟨a1, a2⟩ | a1 | a1
      · have HNx := hid (hI.out.next hlk (hS ⟨a1, a2⟩))
        clear hI hlk hS hN hRe HD
        go_wp2
        go_roundg (s.size - (k + 1))
        case measure => omega
        case rel => exact ⟨k + 1, by omega, by go_num, HNx, rfl⟩
      · have hNN := hN (by omega)
        clear hS hN
        by_cases hk0 : k = 0
        · have hRf := hid (show r = false by rw [← HR.out]; exact lead_bad hlk (by rw [hNN, hk0]; rfl))
          have e0 : ((k : Int) == 0) = true := by simp [hk0]
          have HK0 := hid hk0
          clear hI hlk hNN hRe HD hk0
          go_wp2
          go_ret
          exact ⟨ret_bool' hRf.out.symm, rfl⟩
        have hkp : 0 < k := by omega
        have e0 : ((k : Int) == 0) = false := by simp [hk0]
        have hNN2 : formB k c = restB c := by rw [hNN, show (k == 0) = false by simpa using hk0]; rfl
        clear hNN hk0
        cases hd : digitN n with
        | true =>
          have HNx := hid (hI.out.next hlk (by rw [hNN2, hRe, hd]; rfl))
          rw [hd] at HD
          have HD := hid HD
          clear hI hlk hNN2 hRe hd
          go_wp2_with fail
          refine HD.out.mono ?_
          rintro e w1 ⟨rfl, rfl⟩
          go_wp2
          go_roundg (s.size - (k + 1))
          case measure => omega
          case rel => exact ⟨k + 1, by omega, by go_num, HNx, rfl⟩
        | false =>
          rw [hd] at HD
          have HD := hid HD
          by_cases hm : n = 43 ∨ n = 45 ∨ n = 46
          · have HNx := hid (hI.out.next hlk (by rw [hNN2, hRe, hd, decide_eq_true hm]; rfl))
            clear hI hlk hNN2 hRe hd
            rcases hm with hm | hm | hm
            · have m1 : ((n : Int) != 43) = false := by simp [hm]
              clear hm
              go_wp2_with fail
              refine HD.out.mono ?_
              rintro e w1 ⟨rfl, rfl⟩
              go_wp2
              go_roundg (s.size - (k + 1))
              case measure => omega
              case rel => exact ⟨k + 1, by omega, by go_num, HNx, rfl⟩
            · have m1 : ((n : Int) != 43) = true := by simp [hm]
              have m2 : ((n : Int) != 45) = false := by simp [hm]
              clear hm
              go_wp2_with fail
              refine HD.out.mono ?_
              rintro e w1 ⟨rfl, rfl⟩
              go_wp2
              go_roundg (s.size - (k + 1))
              case measure => omega
              case rel => exact ⟨k + 1, by omega, by go_num, HNx, rfl⟩
            · have m1 : ((n : Int) != 43) = true := by simp [hm]
              have m2 : ((n : Int) != 45) = true := by simp [hm]
              have m3 : ((n : Int) != 46) = false := by simp [hm]
              clear hm
              go_wp2_with fail
              refine HD.out.mono ?_
              rintro e w1 ⟨rfl, rfl⟩
              go_wp2
              go_roundg (s.size - (k + 1))
              case measure => omega
              case rel => exact ⟨k + 1, by omega, by go_num, HNx, rfl⟩
          · have hRf := hid (show r = false by rw [← HR.out]; exact lead_bad hlk (by rw [hNN2, hRe, hd, decide_eq_false hm]; rfl))
            have m1 : ((n : Int) != 43) = true := by simp; omega
            have m2 : ((n : Int) != 45) = true := by simp; omega
            have m3 : ((n : Int) != 46) = true := by simp; omega
            clear hI hlk hNN2 hRe hd hm
            go_wp2_with fail
            refine HD.out.mono ?_
            rintro e w1 ⟨rfl, rfl⟩
            go_wp2
            go_ret
            exact ⟨ret_bool' hRf.out.symm, rfl⟩
      · have hNN := hN (by omega)
        clear hS hN
        have a2 : 97 ≤ n := by omega
        have a3 : decide ((n : Int) ≤ 122) = false := decide_eq_false (by omega)
        by_cases hk0 : k = 0
        · have hRf := hid (show r = false by rw [← HR.out]; exact lead_bad hlk (by rw [hNN, hk0]; rfl))
          have e0 : ((k : Int) == 0) = true := by simp [hk0]
          have HK0 := hid hk0
          clear hI hlk hNN hRe HD hk0
          go_wp2
          go_ret
          exact ⟨ret_bool' hRf.out.symm, rfl⟩
        have hkp : 0 < k := by omega
        have e0 : ((k : Int) == 0) = false := by simp [hk0]
        have hNN2 : formB k c = restB c := by rw [hNN, show (k == 0) = false by simpa using hk0]; rfl
        clear hNN hk0
        cases hd : digitN n with
        | true =>
          have HNx := hid (hI.out.next hlk (by rw [hNN2, hRe, hd]; rfl))
          rw [hd] at HD
          have HD := hid HD
          clear hI hlk hNN2 hRe hd
          go_wp2_with fail
          refine HD.out.mono ?_
          rintro e w1 ⟨rfl, rfl⟩
          go_wp2
          go_roundg (s.size - (k + 1))
          case measure => omega
          case rel => exact ⟨k + 1, by omega, by go_num, HNx, rfl⟩
        | false =>
          rw [hd] at HD
          have HD := hid HD
          by_cases hm : n = 43 ∨ n = 45 ∨ n = 46
          · have HNx := hid (hI.out.next hlk (by rw [hNN2, hRe, hd, decide_eq_true hm]; rfl))
            clear hI hlk hNN2 hRe hd
            rcases hm with hm | hm | hm
            · have m1 : ((n : Int) != 43) = false := by simp [hm]
              clear hm
              go_wp2_with fail
              refine HD.out.mono ?_
              rintro e w1 ⟨rfl, rfl⟩
              go_wp2
              go_roundg (s.size - (k + 1))
              case measure => omega
              case rel => exact ⟨k + 1, by omega, by go_num, HNx, rfl⟩
            · have m1 : ((n : Int) != 43) = true := by simp [hm]
              have m2 : ((n : Int) != 45) = false := by simp [hm]
              clear hm
              go_wp2_with fail
              refine HD.out.mono ?_
              rintro e w1 ⟨rfl, rfl⟩
              go_wp2
              go_roundg (s.size - (k + 1))
              case measure => omega
              case rel => exact ⟨k + 1, by omega, by go_num, HNx, rfl⟩
            · have m1 : ((n : Int) != 43) = true := by simp [hm]
              have m2 : ((n : Int) != 45) = true := by simp [hm]
              have m3 : ((n : Int) != 46) = false := by simp [hm]
              clear hm
              go_wp2_with fail
              refine HD.out.mono ?_
              rintro e w1 ⟨rfl, rfl⟩
              go_wp2
              go_roundg (s.size - (k + 1))
              case measure => omega
              case rel => exact ⟨k + 1, by omega, by go_num, HNx, rfl⟩
          · have hRf := hid (show r = false by rw [← HR.out]; exact lead_bad hlk (by rw [hNN2, hRe, hd, decide_eq_false hm]; rfl))
            have m1 : ((n : Int) != 43) = true := by simp; omega
            have m2 : ((n : Int) != 45) = true := by simp; omega
            have m3 : ((n : Int) != 46) = true := by simp; omega
            clear hI hlk hNN2 hRe hd hm
            go_wp2_with fail
            refine HD.out.mono ?_
            rintro e w1 ⟨rfl, rfl⟩
            go_wp2
            go_ret
            exact ⟨ret_bool' hRf.out.symm, rfl⟩
    · have d1 : decide (k < s.size) = false := decide_eq_false hlt
      have hltI : ¬ (k : Int) < (s.size : Int) := by omega
      have hRt := hid (show r = true by rw [← HR.out]; exact HG.out fun i c hi hc => hI.out i c (by have := HSZ.out; omega) hc)
      clear hI
      go_wp2
      go_ret
      exact ⟨ret_bool' hRt.out.symm, rfl⟩
end Go.Proofs.YtpheaepifjcmiaaDoor
