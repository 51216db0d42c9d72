/- Walks: package raw: where the text of a script ends. Written by tools/gen_rawscr.py. -/
import Derived.Test.YtgldgdopabmefaaGreatDoorRawTurn
import Derived.WalkMore
import Derived.ScopeJumps
namespace Go.Proofs.YtgldgdopabmefaaGreatDoor
open Go.RowKit Go.Lib
set_option maxRecDepth 100000
set_option linter.unusedVariables false

def rpInt : Value → Int | .int _ q => q | _ => 0
/-- What holds wherever the scope is jumped back into. -/
def ScrJ (s sg : ByteArray) (sm : List UInt8) (T n : Nat) (w : World) (a1 : Act) (wr : World) : Prop := ∃ (k st d : Nat) (z7 z8 z9 : Int) (u3 u4 u5 u6 u10 u11 u12 u13 u14 u15 u16 u17 u18 u19 u20 u21 u22 u23 u24 u25 u26 u27 u28 u29 u30 u31 u32 u33 u34 u35 u36 u37 u38 u39 u40 u41 u42 u43 u44 u45 u46 u47 u48 u49 u50 u51 u52 u53 u54 : Value), a1 = { tmps := #[.string s, .int .i64 n, .string sg, u3, u4, u5, u6, .int .i64 z7, .int .i64 z8, .int .i64 z9, u10, u11, u12, u13, u14, u15, u16, u17, u18, u19, u20, u21, u22, u23, u24, u25, u26, u27, u28, u29, u30, u31, u32, u33, u34, u35, u36, u37, u38, u39, u40, u41, u42, u43, u44, u45, u46, u47, u48, u49, u50, u51, u52, u53, u54], defers := [] } ∧ z7 = k ∧ z8 = st ∧ z9 = d ∧ n ≤ k ∧ k ≤ s.size ∧ st ≤ 2 ∧ d ≤ k ∧ Hid (Raw.ScJ s.data.toList sm T k st d) ∧ Hid (Below w.heap.size w wr)
/-- How far it still is there. -/
def ScrM (s : ByteArray) (a1 : Act) (_ : World) : Nat := s.size - (rpInt (a1.tmps.getD 7 undef)).toNat
theorem jump_ret {l : Nat} {J : Act → World → Prop} {Q : Exit → Act → World → Prop} {a : Act} {w : World} : Exit.jump l J Q .ret a w = Q .ret a w := rfl
set_option maxHeartbeats 32000000 in
theorem scriptto_any (s sg : ByteArray) (n : Nat) (w : World) (hs : s.size ≤ 1000000) (hps : sg.size ≤ 1000000) (hn : n ≤ s.size) :
    Calls Tryz.prog 26 #[.string s, .int .i64 n, .string sg] w fun e w' => e = .returned (.int .i64 (n + Raw.run sg.data.toList 0 0 (s.data.toList.drop n) : Nat)) ∧ Below w.heap.size w w' := by
  have hsl := size_list s
  have HSL := hid hsl
  have HE := hid fun (k : Nat) W => (show Calls _ _ _ _ fun e w' => e = .returned (.bool (Raw.endsB (s.data.toList.drop k) sg.data.toList)) ∧ Below W.heap.size W w' by
    have h := begtag_any (s.extract k s.size) sg W (by rw [← size_list, rp_drop, List.length_drop, hsl]; omega) hps
    rw [rp_drop] at h
    exact h)
  have HT := hid fun (k st d : Nat) (hst : st ≤ 2) W => (show Calls _ _ _ _ fun e w' => e = .returned (turnV st d (s.data.toList.drop k)) ∧ Below W.heap.size W w' by
    have h := turn_any (s.extract k s.size) st d W (by rw [← size_list, rp_drop, List.length_drop, hsl]; omega) hst
    rw [rp_drop] at h
    exact h)
  have HC := hid fun (X : ByteArray) W => Tryz.strings_Count_one X 45 W
  obtain ⟨T, hT⟩ : ∃ T, n + Raw.run sg.data.toList 0 0 (s.data.toList.drop n) = T := ⟨_, rfl⟩
  rw [hT]
  obtain ⟨sm, hsm⟩ : ∃ sm, sg.data.toList = sm := ⟨_, rfl⟩
  rw [hsm] at HE hT
  have H0 : Hid (Raw.ScJ s.data.toList sm T n 0 0) := hid ⟨0, fun h => absurd rfl h, hT⟩
  clear hsl hT hsm
  go_enter Tryz.func26, Tryz.ntmps26
  go_wp2
  refine wp_scope_jumps 0 (ScrJ s sg sm T n w) (ScrM s) rfl ?_ ?_
  · go_wp2
    go_step3
    go_wp2
    go_loopg [7, 8, 9] (s.size - n) (fun g iv sv dv wr => ∃ k st d : Nat, n ≤ k ∧ k ≤ s.size ∧ s.size - k ≤ g ∧ iv = .int .i64 k ∧ sv = .int .i64 st ∧ dv = .int .i64 d ∧ st ≤ 2 ∧ d ≤ k ∧ Hid (Raw.ScJ s.data.toList sm T k st d) ∧ Hid (Below w.heap.size w wr))
    case atStart => exact ⟨n, 0, 0, Nat.le_refl _, by omega, Nat.le_refl _, rfl, rfl, rfl, by omega, by omega, H0, hid (Below.refl _ _)⟩
    case round =>
      obtain ⟨k, st, d, hnk, hks, hg, rfl, rfl, rfl, hst, hd, hI, hB⟩ := hrel
      have u1 : ((k : Int)).toNat = k := by omega
      have u2 : (0 : Int) ≤ (k : Int) := by omega
      have u3 : (k : Int) ≤ (s.size : Int) := by omega
      by_cases hlt : k < s.size
      · have e1 : decide (k < s.size) = true := decide_eq_true hlt
        have hltI : (k : Int) < (s.size : Int) := by omega
        have HLT : Hid (k < s.data.toList.length) := hid (by rw [HSL.out]; exact hlt)
        have hb0 : U8.B (s.data.toList.drop k) 0 = (s[k]'hlt).toNat := by rw [U8.B_drop, Nat.add_zero, get_of s k hlt]
        obtain ⟨c, hc⟩ : ∃ c, s[k]'hlt = c := ⟨_, rfl⟩
        rw [hc] at hb0
        have hc256 := c.toNat_lt
        have E1 := fun W => HE.out k W
        have HTk := fun W => HT.out k st d hst W
        unfold turnV at HTk
        have htl := Raw.turn_le st d (s.data.toList.drop k) hst
        have htp := @Raw.turn_pos st d (s.data.toList.drop k)
        obtain ⟨⟨st1, n1⟩, ht⟩ : ∃ x, Raw.turnP st d (s.data.toList.drop k) = x := ⟨_, rfl⟩
        rw [ht] at HTk htl htp
        simp only at HTk htl htp
        rw [List.length_drop, HSL.out] at htl
        obtain ⟨X, hX⟩ : ∃ X, bs ((s.data.toList.drop k).take n1) = X := ⟨_, rfl⟩
        have hXs : X.size = n1 := by
          rw [← hX, size_eq]
          show ((s.data.toList.drop k).take n1).length = n1
          rw [List.length_take, List.length_drop, HSL.out]
          omega
        have hXl : X.data.toList = (s.data.toList.drop k).take X.size := by rw [hXs, ← hX]; rfl
        rw [hX] at HTk
        rw [← hXs] at ht htl htp
        clear hX hXs n1
        have HTk := hid HTk
        have hwrap : IntKind.i64.wrap ((d : Int) + 1) = (d : Int) + 1 := IntWalk.i64_in _ (by omega)
        have hwrap1 : IntKind.i64.wrap ((k : Int) + 1) = (k : Int) + 1 := IntWalk.i64_in _ (by omega)
        by_cases h2 : st = 2
        · have n2 : ((st : Int) != 2) = false := by simp; omega
          have n2e : ((st : Int) == 2) = true := by simp; omega
          have HEE : Hid (st = 2 ∨ Raw.endsB (s.data.toList.drop k) sm = false) := hid (.inl h2)
          clear h2 E1
          by_cases hne : st1 = st
          · subst hne
            have n3 : ((st1 : Int) != (st1 : Int)) = false := by simp
            clear hXl htp
            go_wp2_with fail
            refine (HTk.out _).mono ?_
            rintro e v2 ⟨rfl, b2⟩
            have B2 := hid (hB.out.trans (b2.mono hB.out.size))
            clear b2
            by_cases h45 : c.toNat = 45
            · have t1 : (((c.toNat : Nat) : Int) == 45) = true := by rw [h45]; rfl
              have HN := hid (hI.out.stay HLT.out hst HEE.out ht)
              rw [if_pos (by rw [hb0]; exact h45)] at HN
              clear hb0 h45 hI HTk HEE ht
              go_wp2
              go_roundg (s.size - (k + 1))
              case measure => omega
              case rel => exact ⟨k + 1, st1, d + 1, by omega, by omega, Nat.le_refl _, by go_num, rfl, by go_num, hst, by omega, HN, B2⟩
            · have t1 : (((c.toNat : Nat) : Int) == 45) = false := by simp; omega
              have HN := hid (hI.out.stay HLT.out hst HEE.out ht)
              rw [if_neg (by rw [hb0]; exact h45)] at HN
              clear hb0 h45 hI HTk HEE ht
              go_wp2
              go_roundg (s.size - (k + 1))
              case measure => omega
              case rel => exact ⟨k + 1, st1, 0, by omega, by omega, Nat.le_refl _, by go_num, rfl, rfl, hst, by omega, HN, B2⟩
          · have n3 : ((st1 : Int) != (st : Int)) = true := by simp; omega
            have htp := htp hne
            have hwrap2 : IntKind.i64.wrap ((k : Int) + (X.size : Int)) = (k : Int) + (X.size : Int) := IntWalk.i64_in _ (by omega)
            have HN := hid (hI.out.go HLT.out HEE.out ht hne)
            have hcl : ((s.data.toList.drop k).take X.size).count 45 ≤ X.size := by
              refine Nat.le_trans List.count_le_length ?_
              rw [List.length_take]
              exact Nat.min_le_left _ _
            have HCk := fun W => HC.out X W
            unfold countByte at HCk
            rw [hXl] at HCk
            generalize ((s.data.toList.drop k).take X.size).count 45 = dn at HCk hcl HN
            have HCk := hid HCk
            clear hb0 hI HEE ht hXl
            go_wp2_with fail
            refine (HTk.out _).mono ?_
            rintro e v2 ⟨rfl, b2⟩
            have B2 := hid (hB.out.trans (b2.mono hB.out.size))
            clear b2
            go_wp2_with fail
            refine (HCk.out _).mono ?_
            rintro e v3 ⟨rfl, rfl⟩
            go_wp2
            go_step3
            refine (And.intro rfl ?_ : _)
            refine ⟨k + X.size, st1, dn, _, _, _, _, _, _, _, _, _, _, _, _, _, _, _, _, _, _, _, _, _, _, _, _, _, _, _, _, _, _, _, _, _, _, _, _, _, _, _, _, _, _, _, _, _, _, _, _, _, _, _, _, rfl, ?_, rfl, rfl, ?_, ?_, htl.1, ?_, HN, B2⟩ <;> omega
        · have n2 : ((st : Int) != 2) = true := by simp; omega
          have n2e : ((st : Int) == 2) = false := by simp; omega
          cases he : Raw.endsB (s.data.toList.drop k) sm with
          | true =>
            rw [he] at E1
            have E1 := hid E1
            have HK := hid (hI.out.hit HLT.out (by omega) he)
            clear hb0 hI he ht hXl HTk htp htl
            go_wp2_with fail
            refine (E1.out _).mono ?_
            rintro e v1 ⟨rfl, b1⟩
            have B1 := hid (hB.out.trans (b1.mono hB.out.size))
            clear b1
            go_wp2
            rw [jump_ret]
            go_ret
            exact ⟨by rw [HK.out]; first | done | rfl, B1.out⟩
          | false =>
            rw [he] at E1
            have E1 := hid E1
            have HEE : Hid (st = 2 ∨ Raw.endsB (s.data.toList.drop k) sm = false) := hid (.inr he)
            clear h2 he
            by_cases hne : st1 = st
            · subst hne
              have n3 : ((st1 : Int) != (st1 : Int)) = false := by simp
              clear hXl htp
              go_wp2_with fail
              refine (E1.out _).mono ?_
              rintro e v1 ⟨rfl, b1⟩
              have B1 := hid (hB.out.trans (b1.mono hB.out.size))
              clear b1
              go_wp2_with fail
              refine (HTk.out _).mono ?_
              rintro e v2 ⟨rfl, b2⟩
              have B2 := hid (B1.out.trans (b2.mono B1.out.size))
              clear b2
              by_cases h45 : c.toNat = 45
              · have t1 : (((c.toNat : Nat) : Int) == 45) = true := by rw [h45]; rfl
                have HN := hid (hI.out.stay HLT.out hst HEE.out ht)
                rw [if_pos (by rw [hb0]; exact h45)] at HN
                clear hb0 h45 hI HTk HEE ht
                go_wp2
                go_roundg (s.size - (k + 1))
                case measure => omega
                case rel => exact ⟨k + 1, st1, d + 1, by omega, by omega, Nat.le_refl _, by go_num, rfl, by go_num, hst, by omega, HN, B2⟩
              · have t1 : (((c.toNat : Nat) : Int) == 45) = false := by simp; omega
                have HN := hid (hI.out.stay HLT.out hst HEE.out ht)
                rw [if_neg (by rw [hb0]; exact h45)] at HN
                clear hb0 h45 hI HTk HEE ht
                go_wp2
                go_roundg (s.size - (k + 1))
                case measure => omega
                case rel => exact ⟨k + 1, st1, 0, by omega, by omega, Nat.le_refl _, by go_num, rfl, rfl, hst, by omega, HN, B2⟩
            · have n3 : ((st1 : Int) != (st : Int)) = true := by simp; omega
              have htp := htp hne
              have hwrap2 : IntKind.i64.wrap ((k : Int) + (X.size : Int)) = (k : Int) + (X.size : Int) := IntWalk.i64_in _ (by omega)
              have HN := hid (hI.out.go HLT.out HEE.out ht hne)
              have hcl : ((s.data.toList.drop k).take X.size).count 45 ≤ X.size := by
                refine Nat.le_trans List.count_le_length ?_
                rw [List.length_take]
                exact Nat.min_le_left _ _
              have HCk := fun W => HC.out X W
              unfold countByte at HCk
              rw [hXl] at HCk
              generalize ((s.data.toList.drop k).take X.size).count 45 = dn at HCk hcl HN
              have HCk := hid HCk
              clear hb0 hI HEE ht hXl
              go_wp2_with fail
              refine (E1.out _).mono ?_
              rintro e v1 ⟨rfl, b1⟩
              have B1 := hid (hB.out.trans (b1.mono hB.out.size))
              clear b1
              go_wp2_with fail
              refine (HTk.out _).mono ?_
              rintro e v2 ⟨rfl, b2⟩
              have B2 := hid (B1.out.trans (b2.mono B1.out.size))
              clear b2
              go_wp2_with fail
              refine (HCk.out _).mono ?_
              rintro e v3 ⟨rfl, rfl⟩
              go_wp2
              go_step3
              refine (And.intro rfl ?_ : _)
              refine ⟨k + X.size, st1, dn, _, _, _, _, _, _, _, _, _, _, _, _, _, _, _, _, _, _, _, _, _, _, _, _, _, _, _, _, _, _, _, _, _, _, _, _, _, _, _, _, _, _, _, _, _, _, _, _, _, _, _, _, rfl, ?_, rfl, rfl, ?_, ?_, htl.1, ?_, HN, B2⟩ <;> omega
      · have e1 : decide (k < s.size) = false := decide_eq_false hlt
        have hltI : ¬ (k : Int) < (s.size : Int) := by omega
        have HK := hid (hI.out.over (by rw [HSL.out]; omega))
        clear hI
        go_wp2
        rw [jump_ret]
        go_ret
        exact ⟨by rw [HK.out]; first | done | rfl, hB.out⟩
  · rintro a1 wq ⟨k0, st0, d0, z7, z8, z9, u3, u4, u5, u6, u10, u11, u12, u13, u14, u15, u16, u17, u18, u19, u20, u21, u22, u23, u24, u25, u26, u27, u28, u29, u30, u31, u32, u33, u34, u35, u36, u37, u38, u39, u40, u41, u42, u43, u44, u45, u46, u47, u48, u49, u50, u51, u52, u53, u54, rfl, rfl, rfl, rfl, hn0, hk0, hst0, hd0, hI0, hB0⟩
    go_wp2
    go_loopg [7, 8, 9] (s.size - k0) (fun g iv sv dv wr => ∃ k st d : Nat, k0 ≤ k ∧ k ≤ s.size ∧ s.size - k ≤ g ∧ iv = .int .i64 k ∧ sv = .int .i64 st ∧ dv = .int .i64 d ∧ st ≤ 2 ∧ d ≤ k ∧ Hid (Raw.ScJ s.data.toList sm T k st d) ∧ Hid (Below w.heap.size w wr))
    case atStart => exact ⟨k0, st0, d0, Nat.le_refl _, by omega, Nat.le_refl _, rfl, rfl, rfl, by omega, by omega, hI0, hB0⟩
    case round =>
      obtain ⟨k, st, d, hnk, hks, hg, rfl, rfl, rfl, hst, hd, hI, hB⟩ := hrel
      have u1 : ((k : Int)).toNat = k := by omega
      have u2 : (0 : Int) ≤ (k : Int) := by omega
      have u3 : (k : Int) ≤ (s.size : Int) := by omega
      by_cases hlt : k < s.size
      · have e1 : decide (k < s.size) = true := decide_eq_true hlt
        have hltI : (k : Int) < (s.size : Int) := by omega
        have HLT : Hid (k < s.data.toList.length) := hid (by rw [HSL.out]; exact hlt)
        have hb0 : U8.B (s.data.toList.drop k) 0 = (s[k]'hlt).toNat := by rw [U8.B_drop, Nat.add_zero, get_of s k hlt]
        obtain ⟨c, hc⟩ : ∃ c, s[k]'hlt = c := ⟨_, rfl⟩
        rw [hc] at hb0
        have hc256 := c.toNat_lt
        have E1 := fun W => HE.out k W
        have HTk := fun W => HT.out k st d hst W
        unfold turnV at HTk
        have htl := Raw.turn_le st d (s.data.toList.drop k) hst
        have htp := @Raw.turn_pos st d (s.data.toList.drop k)
        obtain ⟨⟨st1, n1⟩, ht⟩ : ∃ x, Raw.turnP st d (s.data.toList.drop k) = x := ⟨_, rfl⟩
        rw [ht] at HTk htl htp
        simp only at HTk htl htp
        rw [List.length_drop, HSL.out] at htl
        obtain ⟨X, hX⟩ : ∃ X, bs ((s.data.toList.drop k).take n1) = X := ⟨_, rfl⟩
        have hXs : X.size = n1 := by
          rw [← hX, size_eq]
          show ((s.data.toList.drop k).take n1).length = n1
          rw [List.length_take, List.length_drop, HSL.out]
          omega
        have hXl : X.data.toList = (s.data.toList.drop k).take X.size := by rw [hXs, ← hX]; rfl
        rw [hX] at HTk
        rw [← hXs] at ht htl htp
        clear hX hXs n1
        have HTk := hid HTk
        have hwrap : IntKind.i64.wrap ((d : Int) + 1) = (d : Int) + 1 := IntWalk.i64_in _ (by omega)
        have hwrap1 : IntKind.i64.wrap ((k : Int) + 1) = (k : Int) + 1 := IntWalk.i64_in _ (by omega)
        by_cases h2 : st = 2
        · have n2 : ((st : Int) != 2) = false := by simp; omega
          have n2e : ((st : Int) == 2) = true := by simp; omega
          have HEE : Hid (st = 2 ∨ Raw.endsB (s.data.toList.drop k) sm = false) := hid (.inl h2)
          clear h2 E1
          by_cases hne : st1 = st
          · subst hne
            have n3 : ((st1 : Int) != (st1 : Int)) = false := by simp
            clear hXl htp
            go_wp2_with fail
            refine (HTk.out _).mono ?_
            rintro e v2 ⟨rfl, b2⟩
            have B2 := hid (hB.out.trans (b2.mono hB.out.size))
            clear b2
            by_cases h45 : c.toNat = 45
            · have t1 : (((c.toNat : Nat) : Int) == 45) = true := by rw [h45]; rfl
              have HN := hid (hI.out.stay HLT.out hst HEE.out ht)
              rw [if_pos (by rw [hb0]; exact h45)] at HN
              clear hb0 h45 hI HTk HEE ht
              go_wp2
              go_roundg (s.size - (k + 1))
              case measure => omega
              case rel => exact ⟨k + 1, st1, d + 1, by omega, by omega, Nat.le_refl _, by go_num, rfl, by go_num, hst, by omega, HN, B2⟩
            · have t1 : (((c.toNat : Nat) : Int) == 45) = false := by simp; omega
              have HN := hid (hI.out.stay HLT.out hst HEE.out ht)
              rw [if_neg (by rw [hb0]; exact h45)] at HN
              clear hb0 h45 hI HTk HEE ht
              go_wp2
              go_roundg (s.size - (k + 1))
              case measure => omega
              case rel => exact ⟨k + 1, st1, 0, by omega, by omega, Nat.le_refl _, by go_num, rfl, rfl, hst, by omega, HN, B2⟩
          · have n3 : ((st1 : Int) != (st : Int)) = true := by simp; omega
            have htp := htp hne
            have hwrap2 : IntKind.i64.wrap ((k : Int) + (X.size : Int)) = (k : Int) + (X.size : Int) := IntWalk.i64_in _ (by omega)
            have HN := hid (hI.out.go HLT.out HEE.out ht hne)
            have hcl : ((s.data.toList.drop k).take X.size).count 45 ≤ X.size := by
              refine Nat.le_trans List.count_le_length ?_
              rw [List.length_take]
              exact Nat.min_le_left _ _
            have HCk := fun W => HC.out X W
            unfold countByte at HCk
            rw [hXl] at HCk
            generalize ((s.data.toList.drop k).take X.size).count 45 = dn at HCk hcl HN
            have HCk := hid HCk
            clear hb0 hI HEE ht hXl
            go_wp2_with fail
            refine (HTk.out _).mono ?_
            rintro e v2 ⟨rfl, b2⟩
            have B2 := hid (hB.out.trans (b2.mono hB.out.size))
            clear b2
            go_wp2_with fail
            refine (HCk.out _).mono ?_
            rintro e v3 ⟨rfl, rfl⟩
            go_wp2
            go_step3
            refine (And.intro rfl (And.intro ?_ ?_) : _)
            · refine ⟨k + X.size, st1, dn, _, _, _, _, _, _, _, _, _, _, _, _, _, _, _, _, _, _, _, _, _, _, _, _, _, _, _, _, _, _, _, _, _, _, _, _, _, _, _, _, _, _, _, _, _, _, _, _, _, _, _, _, rfl, ?_, rfl, rfl, ?_, ?_, htl.1, ?_, HN, B2⟩ <;> omega
            · simp [ScrM, rpInt]
              omega
        · have n2 : ((st : Int) != 2) = true := by simp; omega
          have n2e : ((st : Int) == 2) = false := by simp; omega
          cases he : Raw.endsB (s.data.toList.drop k) sm with
          | true =>
            rw [he] at E1
            have E1 := hid E1
            have HK := hid (hI.out.hit HLT.out (by omega) he)
            clear hb0 hI he ht hXl HTk htp htl
            go_wp2_with fail
            refine (E1.out _).mono ?_
            rintro e v1 ⟨rfl, b1⟩
            have B1 := hid (hB.out.trans (b1.mono hB.out.size))
            clear b1
            go_wp2
            rw [jump_ret]
            go_ret
            exact ⟨by rw [HK.out]; first | done | rfl, B1.out⟩
          | false =>
            rw [he] at E1
            have E1 := hid E1
            have HEE : Hid (st = 2 ∨ Raw.endsB (s.data.toList.drop k) sm = false) := hid (.inr he)
            clear h2 he
            by_cases hne : st1 = st
            · subst hne
              have n3 : ((st1 : Int) != (st1 : Int)) = false := by simp
              clear hXl htp
              go_wp2_with fail
              refine (E1.out _).mono ?_
              rintro e v1 ⟨rfl, b1⟩
              have B1 := hid (hB.out.trans (b1.mono hB.out.size))
              clear b1
              go_wp2_with fail
              refine (HTk.out _).mono ?_
              rintro e v2 ⟨rfl, b2⟩
              have B2 := hid (B1.out.trans (b2.mono B1.out.size))
              clear b2
              by_cases h45 : c.toNat = 45
              · have t1 : (((c.toNat : Nat) : Int) == 45) = true := by rw [h45]; rfl
                have HN := hid (hI.out.stay HLT.out hst HEE.out ht)
                rw [if_pos (by rw [hb0]; exact h45)] at HN
                clear hb0 h45 hI HTk HEE ht
                go_wp2
                go_roundg (s.size - (k + 1))
                case measure => omega
                case rel => exact ⟨k + 1, st1, d + 1, by omega, by omega, Nat.le_refl _, by go_num, rfl, by go_num, hst, by omega, HN, B2⟩
              · have t1 : (((c.toNat : Nat) : Int) == 45) = false := by simp; omega
                have HN := hid (hI.out.stay HLT.out hst HEE.out ht)
                rw [if_neg (by rw [hb0]; exact h45)] at HN
                clear hb0 h45 hI HTk HEE ht
                go_wp2
                go_roundg (s.size - (k + 1))
                case measure => omega
                case rel => exact ⟨k + 1, st1, 0, by omega, by omega, Nat.le_refl _, by go_num, rfl, rfl, hst, by omega, HN, B2⟩
            · have n3 : ((st1 : Int) != (st : Int)) = true := by simp; omega
              have htp := htp hne
              have hwrap2 : IntKind.i64.wrap ((k : Int) + (X.size : Int)) = (k : Int) + (X.size : Int) := IntWalk.i64_in _ (by omega)
              have HN := hid (hI.out.go HLT.out HEE.out ht hne)
              have hcl : ((s.data.toList.drop k).take X.size).count 45 ≤ X.size := by
                refine Nat.le_trans List.count_le_length ?_
                rw [List.length_take]
                exact Nat.min_le_left _ _
              have HCk := fun W => HC.out X W
              unfold countByte at HCk
              rw [hXl] at HCk
              generalize ((s.data.toList.drop k).take X.size).count 45 = dn at HCk hcl HN
              have HCk := hid HCk
              clear hb0 hI HEE ht hXl
              go_wp2_with fail
              refine (E1.out _).mono ?_
              rintro e v1 ⟨rfl, b1⟩
              have B1 := hid (hB.out.trans (b1.mono hB.out.size))
              clear b1
              go_wp2_with fail
              refine (HTk.out _).mono ?_
              rintro e v2 ⟨rfl, b2⟩
              have B2 := hid (B1.out.trans (b2.mono B1.out.size))
              clear b2
              go_wp2_with fail
              refine (HCk.out _).mono ?_
              rintro e v3 ⟨rfl, rfl⟩
              go_wp2
              go_step3
              refine (And.intro rfl (And.intro ?_ ?_) : _)
              · refine ⟨k + X.size, st1, dn, _, _, _, _, _, _, _, _, _, _, _, _, _, _, _, _, _, _, _, _, _, _, _, _, _, _, _, _, _, _, _, _, _, _, _, _, _, _, _, _, _, _, _, _, _, _, _, _, _, _, _, _, rfl, ?_, rfl, rfl, ?_, ?_, htl.1, ?_, HN, B2⟩ <;> omega
              · simp [ScrM, rpInt]
                omega
      · have e1 : decide (k < s.size) = false := decide_eq_false hlt
        have hltI : ¬ (k : Int) < (s.size : Int) := by omega
        have HK := hid (hI.out.over (by rw [HSL.out]; omega))
        clear hI
        go_wp2
        rw [jump_ret]
        go_ret
        exact ⟨by rw [HK.out]; first | done | rfl, hB.out⟩
end Go.Proofs.YtgldgdopabmefaaGreatDoor
