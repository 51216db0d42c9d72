/- Walks: package raw: whether a tag begins with a sign, and the first that does. -/
import Derived.Test.YtgldgdopabmefaaDoorRawLw
import Derived.Test.YtgldgdopabmefaaDoorLower
import Derived.Test.YtgldgdopabmefaaDoorClsByte
import Derived.Test.YtgldgdopabmefaaDoorAppT
import Derived.Deep.LoopGhost
import Derived.Deep.RegionHeld3
import Derived.IntWalk
namespace Go.Proofs.YtgldgdopabmefaaDoor
open Go.RowKit Go.Lib
set_option maxRecDepth 100000
set_option linter.unusedVariables false

theorem rp_one (s : ByteArray) (k : Nat) (hk : k < s.size) : s.extract k (k + 1) = bs [s[k]'hk] := by
  apply ByteArray.ext
  apply Array.ext'
  rw [extract_data]
  show (s.data.toList.drop k).take (k + 1 - k) = [s[k]'hk]
  rw [List.drop_eq_getElem_cons (by rw [size_list]; exact hk), show k + 1 - k = 1 by omega]
  rfl
theorem rp_at (s : ByteArray) (k : Nat) (hk : k < s.size) : s.data.toList[k]? = some (s[k]'hk) := by
  rw [List.getElem?_eq_getElem (by rw [size_list]; exact hk)]
  rfl
theorem rp_drop (s : ByteArray) (k : Nat) : (s.extract k s.size).data.toList = s.data.toList.drop k := by
  rw [extract_data, List.take_of_length_le]
  rw [List.length_drop, size_list]
  exact Nat.le_refl _
theorem rp_low (c : UInt8) : (⟨(lowL (bs [c]).data.toList).toArray⟩ : ByteArray) = bs [lowC c] := rfl
theorem rp_eq (c d : UInt8) : ((bs [c]).toList == (bs [d]).toList) = decide (c = d) := by
  rw [ByteArray.toList_eq, ByteArray.toList_eq, Bool.eq_iff_iff]
  show (([c] : List UInt8) == [d]) = true ↔ _
  simp
set_option maxHeartbeats 4000000 in
theorem begtag_any (s sg : ByteArray) (w : World) (hs : s.size ≤ 1000000) (hps : sg.size ≤ 1000000) :
    Calls Tryd.prog 27 #[.string s, .string sg] w fun e w' => e = .returned (.bool (Raw.endsB s.data.toList sg.data.toList)) ∧ Below w.heap.size w w' := by
  have hsl := size_list s
  have hpl := size_list sg
  by_cases hlen : s.size ≤ sg.size
  · rw [Raw.ends_short (by omega)]
    have d1 : decide ((s.size : Int) ≤ (sg.size : Int)) = true := decide_eq_true (by omega)
    have d1N : decide (s.size ≤ sg.size) = true := decide_eq_true hlen
    clear hsl hpl
    go_enter Tryd.func27, Tryd.ntmps27
    go_wp2
    go_ret
    exact ⟨rfl, Below.refl _ _⟩
  have d1 : decide ((s.size : Int) ≤ (sg.size : Int)) = false := decide_eq_false (by omega)
  have d1N : decide (s.size ≤ sg.size) = false := decide_eq_false hlen
  have HSL := hid hsl
  have HPL := hid hpl
  have HO := hid (rp_one s)
  have HP := hid (rp_one sg)
  have HA := hid (rp_at s)
  have HB := hid (rp_at sg)
  have hlt0 : sg.size < s.size := by omega
  obtain ⟨z, hz⟩ : ∃ z, Raw.endsB s.data.toList sg.data.toList = z := ⟨_, rfl⟩
  have HZ := hid hz
  rw [hz]
  clear hsl hpl hz
  go_enter Tryd.func27, Tryd.ntmps27
  go_wp2
  go_loopg [14] sg.size (fun g iv wr => ∃ k : Nat, k + g = sg.size ∧ iv = .int .i64 k ∧ Hid (lowL (s.data.toList.take k) = sg.data.toList.take k) ∧ Hid (Below w.heap.size w wr))
  case atStart => exact ⟨0, by omega, rfl, hid rfl, hid (Below.refl _ _)⟩
  case round =>
    obtain ⟨k, hk, rfl, hI, hB⟩ := hrel
    by_cases hlt : k < sg.size
    · have e1 : decide (k < sg.size) = true := decide_eq_true hlt
      have hltI : (k : Int) < (sg.size : Int) := by omega
      have hlts : k < s.size := by omega
      have ho := HO.out k hlts
      have hp := HP.out k hlt
      have ha := HA.out k hlts
      have hb := HB.out k hlt
      obtain ⟨c, hc⟩ : ∃ c, s[k]'hlts = c := ⟨_, rfl⟩
      obtain ⟨d, hd⟩ : ∃ d, sg[k]'hlt = d := ⟨_, rfl⟩
      rw [hc] at ho ha
      rw [hd] at hp hb
      have L := fun W => clower_any (bs [c]) W (by show 1 ≤ _; omega)
      rw [rp_low] at L
      have L := hid L
      have q1 : ((k : Int)).toNat = k := by omega
      have q2 : (0 : Int) ≤ (k : Int) := by omega
      have q3 : (k : Int) ≤ (k : Int) + 1 := by omega
      have q4 : (0 : Int) ≤ (k : Int) + 1 := by omega
      have q5 : ((k : Int) + 1).toNat = k + 1 := by omega
      have q6 : (k : Int) + 1 ≤ (s.size : Int) := by omega
      have q7 : (k : Int) + 1 ≤ (sg.size : Int) := by omega
      have q8 : IntKind.i64.wrap ((k : Int) + 1) = (k : Int) + 1 := IntWalk.i64_in _ (by omega)
      have e0 : Below wr.heap.size wr wr := Below.refl _ _
      by_cases hcd : lowC c = d
      · have v1 : ((bs [lowC c]).toList == (bs [d]).toList) = true := by rw [rp_eq, decide_eq_true hcd]
        have v2 : ((bs [lowC c]).toList != (bs [d]).toList) = false := by unfold bne; rw [v1]; rfl
        have v3 : (bs [lowC c]).toList = (bs [d]).toList := by rw [hcd]
        have HN := hid (Raw.word_go hI.out ha hb hcd)
        generalize bs [c] = C at *
        generalize bs [lowC c] = LC at *
        generalize bs [d] = D at *
        clear hI ha hb hc hd hcd
        go_wp2
        go_region_held3 (fun w' => Below wr.heap.size wr w') (first | exact e1 | exact e0.drew | exact e0)
          (first
            | (go_at_call 15; with_reducible refine (L.out _).mono ?_; rintro e w3 ⟨rfl, b3⟩; have e1 := e0.drew.trans (b3.mono e0.drew.size)))
        have HBn := hid (hB.out.trans (e1.mono hB.out.size))
        clear e0 e1 b3 hB L
        go_wp2
        go_roundg (sg.size - (k + 1))
        case measure => omega
        case rel => exact ⟨k + 1, by omega, by go_num, HN, HBn⟩
      · have v1 : ((bs [lowC c]).toList == (bs [d]).toList) = false := by rw [rp_eq, decide_eq_false hcd]
        have v2 : ((bs [lowC c]).toList != (bs [d]).toList) = true := by unfold bne; rw [v1]; rfl
        have v3 : ¬ (bs [lowC c]).toList = (bs [d]).toList := by
          intro h
          rw [h] at v1
          simp at v1
        have HN := hid (Raw.ends_bad (Raw.word_bad ha hb hcd))
        generalize bs [c] = C at *
        generalize bs [lowC c] = LC at *
        generalize bs [d] = D at *
        clear hI ha hb hc hd hcd
        go_wp2
        go_region_held3 (fun w' => Below wr.heap.size wr w') (first | exact e1 | exact e0.drew | exact e0)
          (first
            | (go_at_call 15; with_reducible refine (L.out _).mono ?_; rintro e w3 ⟨rfl, b3⟩; have e1 := e0.drew.trans (b3.mono e0.drew.size)))
        have HBn := hid (hB.out.trans (e1.mono hB.out.size))
        clear e0 e1 b3 hB L
        go_wp2
        go_ret
        exact ⟨by rw [← HZ.out, HN.out]; first | done | rfl, HBn.out⟩
    · have e1 : decide (k < sg.size) = false := decide_eq_false hlt
      have hltI : ¬ (k : Int) < (sg.size : Int) := by omega
      have hkk : k = sg.size := by omega
      have q1 : ((sg.size : Int)).toNat = sg.size := by omega
      have q2 : (0 : Int) ≤ (sg.size : Int) := by omega
      have q3 : (sg.size : Int) < (s.size : Int) := by omega
      have hw : Raw.wordB s.data.toList sg.data.toList = true := Raw.word_yes (by rw [HSL.out, HPL.out]; omega) (by rw [HPL.out, ← hkk]; exact hI.out)
      have hE := Raw.ends_yes (by rw [HSL.out, HPL.out]; exact hlt0) hw
      rw [HPL.out, HZ.out] at hE
      have hg := get_of s sg.size hlt0
      obtain ⟨c, hc⟩ : ∃ c, s[sg.size]'hlt0 = c := ⟨_, rfl⟩
      rw [hc] at hg
      rw [← hg] at hE
      have hc256 := c.toNat_lt
      have HS := fun W => cspace_any c.toNat (by omega) W
      subst hkk
      clear hw hI hg
      have HBn := hB
      cases h1 : spaceN c.toNat with
      | true =>
        rw [h1] at HS
        rw [h1, Bool.true_or] at hE
        have HE := hid hE
        have HS := hid HS
        clear hE h1
        go_wp2_with fail
        refine (HS.out _).mono ?_
        rintro e w1 ⟨rfl, rfl⟩
        go_wp2
        go_ret
        exact ⟨by rw [HE.out]; first | done | rfl, HBn.out⟩
      | false =>
        rw [h1] at HS
        rw [h1, Bool.false_or] at hE
        have HS := hid HS
        by_cases h47 : c.toNat = 47
        · have t1 : (((c.toNat : Nat) : Int) == 47) = true := by rw [h47]; rfl
          rw [show (c.toNat == 47) = true by simp [h47], Bool.true_or] at hE
          have HE := hid hE
          clear hE h1 h47
          go_wp2_with fail
          refine (HS.out _).mono ?_
          rintro e w1 ⟨rfl, rfl⟩
          go_wp2
          go_ret
          exact ⟨by rw [HE.out]; first | done | rfl, HBn.out⟩
        · have t1 : (((c.toNat : Nat) : Int) == 47) = false := by simp; omega
          rw [show (c.toNat == 47) = false by simp [h47], Bool.false_or] at hE
          have t2 : (((c.toNat : Nat) : Int) == 62) = (c.toNat == 62) := by
            rw [Bool.eq_iff_iff]
            simp
            omega
          have HE := hid hE
          generalize (c.toNat == 62) = y at *
          clear hE h1 h47
          go_wp2_with fail
          refine (HS.out _).mono ?_
          rintro e w1 ⟨rfl, rfl⟩
          go_wp2
          go_ret
          exact ⟨by rw [HE.out]; first | done | rfl, HBn.out⟩
set_option maxHeartbeats 4000000 in
theorem firsttag_any (s sg : ByteArray) (n : Nat) (w : World) (hs : s.size ≤ 1000000) (hps : sg.size ≤ 1000000) (hn : n ≤ s.size) :
    Calls Tryd.prog 16 #[.string s, .int .i64 n, .string sg] w fun e w' => e = .returned (.int .i64 (n + Raw.stop sg.data.toList (s.data.toList.drop n) : Nat)) ∧ Below w.heap.size w w' := by
  have hsl := size_list s
  have HSL := hid hsl
  have HE := hid fun (k : Nat) W => (show Calls _ _ _ _ fun e w' => e = .returned (.bool (Raw.endsB (s.data.toList.drop k) sg.data.toList)) ∧ Below W.heap.size W w' by
    have h := begtag_any (s.extract k s.size) sg W (by rw [← size_list, rp_drop, List.length_drop, hsl]; omega) hps
    rw [rp_drop] at h
    exact h)
  obtain ⟨T, hT⟩ : ∃ T, n + Raw.stop sg.data.toList (s.data.toList.drop n) = T := ⟨_, rfl⟩
  rw [hT]
  have H0 := hid hT
  obtain ⟨sm, hsm⟩ : ∃ sm, sg.data.toList = sm := ⟨_, rfl⟩
  rw [hsm] at HE H0
  clear hsl hT hsm
  go_enter Tryd.func16, Tryd.ntmps16
  go_wp2
  go_loopg [7] (s.size - n) (fun g iv wr => ∃ k : Nat, n ≤ k ∧ k ≤ s.size ∧ s.size - k ≤ g ∧ iv = .int .i64 k ∧ Hid (k + Raw.stop sm (s.data.toList.drop k) = T) ∧ Hid (Below w.heap.size w wr))
  case atStart => exact ⟨n, Nat.le_refl _, hn, Nat.le_refl _, rfl, H0, hid (Below.refl _ _)⟩
  case round =>
    obtain ⟨k, hnk, hks, hg, rfl, hI, hB⟩ := hrel
    have u1 : ((k : Int)).toNat = k := by omega
    have u2 : (0 : Int) ≤ (k : Int) := by omega
    have u3 : (k : Int) ≤ (s.size : Int) := by omega
    by_cases hlt : k < s.size
    · have e1 : decide (k < s.size) = true := decide_eq_true hlt
      have hltI : (k : Int) < (s.size : Int) := by omega
      have hr0 : 0 < (s.data.toList.drop k).length := by rw [List.length_drop, HSL.out]; omega
      have E1 := fun W => HE.out k W
      cases he : Raw.endsB (s.data.toList.drop k) sm with
      | true =>
        rw [he] at E1
        have E1 := hid E1
        have HK : Hid (k = T) := hid (by have h := hI.out; rw [Raw.stop_yes he] at h; omega)
        clear he hI hr0
        go_wp2_with fail
        refine (E1.out _).mono ?_
        rintro e w1 ⟨rfl, b1⟩
        have B1 := hid (hB.out.trans (b1.mono hB.out.size))
        clear b1
        go_wp2
        go_ret
        exact ⟨by rw [HK.out]; first | done | rfl, B1.out⟩
      | false =>
        rw [he] at E1
        have E1 := hid E1
        have HN : Hid (k + 1 + Raw.stop sm (s.data.toList.drop (k + 1)) = T) := hid (by
          have h := hI.out
          rw [Raw.stop_no he hr0, List.drop_drop] at h
          omega)
        clear he hI hr0
        go_wp2_with fail
        refine (E1.out _).mono ?_
        rintro e w1 ⟨rfl, b1⟩
        have B1 := hid (hB.out.trans (b1.mono hB.out.size))
        clear b1
        go_wp2
        go_roundg (s.size - (k + 1))
        case measure => omega
        case rel => exact ⟨k + 1, by omega, by omega, Nat.le_refl _, by go_num, HN, B1⟩
    · have e1 : decide (k < s.size) = false := decide_eq_false hlt
      have hltI : ¬ (k : Int) < (s.size : Int) := by omega
      have hk : k = s.size := by omega
      have HK : Hid (s.size = T) := hid (by
        have h := hI.out
        rw [List.drop_of_length_le (by rw [HSL.out]; omega)] at h
        simpa [Raw.stop, hk] using h)
      clear hI
      go_wp2
      go_ret
      exact ⟨by rw [HK.out]; first | done | rfl, hB.out⟩
end Go.Proofs.YtgldgdopabmefaaDoor
