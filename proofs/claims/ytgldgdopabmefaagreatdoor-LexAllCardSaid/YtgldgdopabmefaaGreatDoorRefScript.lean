/- Walks over the reference of layer 8: where the text of a script ends. -/
import Derived.Test.YtgldgdopabmefaaGreatDoorRefRaw
namespace Go.Proofs.YtgldgdopabmefaaGreatDoor
open Go.RowKit Go.Lib
set_option maxRecDepth 100000
set_option linter.unusedVariables false

/-- What is still to go, told of the whole. -/
def ScI (l small : List UInt8) (T k st d : Nat) : Prop := k + Raw.run small st d (l.drop k) = T
theorem ScI.stop {l small : List UInt8} {T k st d : Nat} (h : ScI l small T k st d) (hs : Raw.step small st d (l.drop k) = none) : T = k := by
  unfold ScI at h
  rw [Raw.run_none hs] at h
  omega
theorem ScI.next {l small : List UInt8} {T k st d st' d' a : Nat} (h : ScI l small T k st d) (hs : Raw.step small st d (l.drop k) = some (st', d', a)) : ScI l small T (k + a) st' d' := by
  unfold ScI at h ⊢
  rw [Raw.run_some hs, List.drop_drop] at h
  omega
theorem st_end {r small : List UInt8} {st d : Nat} (hr : 0 < r.length) (h2 : st < 2) (he : Raw.endsB r small = true) : Raw.step small st d r = none := by
  unfold Raw.step
  rw [if_neg (by omega), if_pos ⟨h2, he⟩]
theorem st_out_yes {r small : List UInt8} {d : Nat} (hr : 0 < r.length) (he : Raw.endsB r small = false) (hw : Raw.wordB r Raw.sOpen = true) : Raw.step small 0 d r = some (1, 2, 4) := by
  unfold Raw.step
  rw [if_neg (by omega), if_neg (by rw [he]; simp), if_pos rfl, if_pos hw]
theorem st_out_no {r small : List UInt8} {d : Nat} (hr : 0 < r.length) (he : Raw.endsB r small = false) (hw : Raw.wordB r Raw.sOpen = false) : Raw.step small 0 d r = some (0, d, 1) := by
  unfold Raw.step
  rw [if_neg (by omega), if_neg (by rw [he]; simp), if_pos rfl, if_neg (by rw [hw]; decide)]
theorem st_dash {r small : List UInt8} {st d : Nat} (hr : 0 < r.length) (h0 : st ≠ 0) (he : st = 2 ∨ Raw.endsB r small = false) (hc : U8.B r 0 = 45) : Raw.step small st d r = some (st, d + 1, 1) := by
  unfold Raw.step
  rw [if_neg (by omega), if_neg (by rcases he with he | he; · omega
                                    · rw [he]; simp), if_neg h0, if_pos hc]
theorem st_great {r small : List UInt8} {st d : Nat} (hr : 0 < r.length) (h0 : st ≠ 0) (he : st = 2 ∨ Raw.endsB r small = false) (hc : U8.B r 0 = 62) (hd : 2 ≤ d) : Raw.step small st d r = some (0, 0, 1) := by
  unfold Raw.step
  rw [if_neg (by omega), if_neg (by rcases he with he | he; · omega
                                    · rw [he]; simp), if_neg h0, if_neg (by omega), if_pos ⟨hc, hd⟩]
theorem st_in_yes {r small : List UInt8} {d : Nat} (hr : 0 < r.length) (he : Raw.endsB r small = false) (hc : U8.B r 0 ≠ 45) (hg : ¬ (U8.B r 0 = 62 ∧ 2 ≤ d)) (hw : Raw.wordB r Raw.sScript = true) (hcl : Raw.closedB (r.drop 7) = true) : Raw.step small 1 d r = some (2, 0, 8) := by
  unfold Raw.step
  rw [if_neg (by omega), if_neg (by rw [he]; simp), if_neg (by decide), if_neg hc, if_neg hg, if_pos ⟨rfl, hw, hcl⟩]
theorem st_in_no {r small : List UInt8} {d : Nat} (hr : 0 < r.length) (he : Raw.endsB r small = false) (hc : U8.B r 0 ≠ 45) (hg : ¬ (U8.B r 0 = 62 ∧ 2 ≤ d)) (hw : Raw.wordB r Raw.sScript = false ∨ Raw.closedB (r.drop 7) = false) : Raw.step small 1 d r = some (1, 0, 1) := by
  unfold Raw.step
  rw [if_neg (by omega), if_neg (by rw [he]; simp), if_neg (by decide), if_neg hc, if_neg hg, if_neg (by rcases hw with h | h <;> (rw [h]; simp)), if_neg (by simp)]
theorem st_deep_yes {r small : List UInt8} {d : Nat} (hr : 0 < r.length) (hc : U8.B r 0 ≠ 45) (hg : ¬ (U8.B r 0 = 62 ∧ 2 ≤ d)) (hw : Raw.endsB r Raw.sEnd = true) : Raw.step small 2 d r = some (1, 0, 9) := by
  unfold Raw.step
  rw [if_neg (by omega), if_neg (by simp), if_neg (by decide), if_neg hc, if_neg hg, if_neg (by simp), if_pos ⟨rfl, hw⟩]
theorem st_deep_no {r small : List UInt8} {d : Nat} (hr : 0 < r.length) (hc : U8.B r 0 ≠ 45) (hg : ¬ (U8.B r 0 = 62 ∧ 2 ≤ d)) (hw : Raw.endsB r Raw.sEnd = false) : Raw.step small 2 d r = some (2, 0, 1) := by
  unfold Raw.step
  rw [if_neg (by omega), if_neg (by simp), if_neg (by decide), if_neg hc, if_neg hg, if_neg (by simp), if_neg (by rw [hw]; simp)]
theorem dash_le {l small : List UInt8} {T k st d st' d' a : Nat} (h : Raw.step small st d (l.drop k) = some (st', d', a)) (hd : d ≤ k + 2) : d' ≤ k + a + 2 := by
  have h1 := Raw.step_far h
  simp only at h1
  unfold Raw.step at h
  split at h
  · cases h
  split at h
  · cases h
  split at h
  · split at h <;> (cases h; omega)
  split at h
  · cases h; omega
  split at h
  · cases h; omega
  split at h
  · cases h; omega
  split at h
  · cases h; omega
  · cases h; omega
set_option maxHeartbeats 8000000 in
theorem rscript_any (s name : ByteArray) (n : Nat) (w : World) (hs : s.size ≤ 1000000) (hps : name.size ≤ 900000) (hn : n ≤ s.size) :
    Calls Tryz.prog 34 #[.string s, .int .i64 n, .string name] w fun e w' => e = .returned (.int .i64 (n + Raw.run (Raw.smallN name.data.toList) 0 0 (s.data.toList.drop n) : Nat)) ∧ Below w.heap.size w w' := by
  have hsl := size_list s
  have HSL := hid hsl
  have HE := hid fun (k : Nat) (hk : k ≤ s.size) W => rends_any s name k W hs hps hk
  have HO := hid fun (k : Nat) (hk : k ≤ s.size) W => rword_any s ⟨#[60, 33, 45, 45]⟩ k W hs (by decide) hk
  have HS := hid fun (k : Nat) (hk : k ≤ s.size) W => rword_any s ⟨#[60, 115, 99, 114, 105, 112, 116]⟩ k W hs (by decide) hk
  have HC := hid fun (k : Nat) (hk : k ≤ 4000000) W => rclosed_any s k W hs hk
  have HD := hid fun (k : Nat) (hk : k ≤ s.size) W => rends_any s ⟨#[115, 99, 114, 105, 112, 116]⟩ k W hs (by decide) hk
  obtain ⟨T, hT⟩ : ∃ T, n + Raw.run (Raw.smallN name.data.toList) 0 0 (s.data.toList.drop n) = T := ⟨_, rfl⟩
  rw [hT]
  have H0 : Hid (ScI s.data.toList (Raw.smallN name.data.toList) T n 0 0) := hid hT
  obtain ⟨sm, hsm⟩ : ∃ sm, Raw.smallN name.data.toList = sm := ⟨_, rfl⟩
  rw [hsm] at HE H0
  clear hsl hT hsm
  go_enter Tryz.func34, Tryz.ntmps34
  go_wp2
  go_loopg [1, 7, 8] (s.size - n) (fun g iv sv dv wr => ∃ k st d : Nat, n ≤ k ∧ k ≤ s.size ∧ s.size - k ≤ g ∧ iv = .int .i64 k ∧ sv = .int .i64 st ∧ dv = .int .i64 d ∧ st ≤ 2 ∧ d ≤ k + 2 ∧ Hid (ScI s.data.toList sm T k st d) ∧ Hid (Below w.heap.size w wr))
  case atStart => exact ⟨n, 0, 0, Nat.le_refl _, hn, Nat.le_refl _, rfl, rfl, rfl, by omega, by omega, H0, hid (Below.refl _ _)⟩
  case round =>
    obtain ⟨k, st, d, hnk, hks, hg, rfl, rfl, rfl, hst, hd, hI, hB⟩ := hrel
    by_cases hlt : k < s.size
    · have d1 : decide (k < s.size) = true := decide_eq_true hlt
      have hltI : (k : Int) < (s.size : Int) := by omega
      have hr0 : 0 < (s.data.toList.drop k).length := by rw [List.length_drop, HSL.out]; omega
      have hb0 := raw_at s k hlt
      obtain ⟨c, hc⟩ : ∃ c, s[k]'hlt = c := ⟨_, rfl⟩
      rw [hc] at hb0
      have hc256 := c.toNat_lt
      have E1 := fun W => HE.out k hks W
      have q1 : ((k : Int)).toNat = k := by omega
      have q2 : (0 : Int) ≤ (k : Int) := by omega
      have hwrap : IntKind.i64.wrap ((d : Int) + 1) = (d : Int) + 1 := IntWalk.i64_in _ (by omega)
      cases he : Raw.endsB (s.data.toList.drop k) sm with
      | true =>
        rw [he] at E1
        have E1 := hid E1
        rcases (show st = 0 ∨ st = 1 ∨ st = 2 by omega) with rfl | rfl | rfl
        · 
          have hTk := hid (hI.out.stop (st_end hr0 (by omega) he))
          have B0 := hB
          clear hb0 hI hr0 he hc
          go_wp2_with fail
          refine (E1.out _).mono ?_
          rintro e v1 ⟨rfl, b1⟩
          have B1 := hid (B0.out.trans (b1.mono B0.out.size))
          clear b1
          go_wp2
          go_ret
          exact ⟨by rw [hTk.out]; rfl, B1.out⟩
        · 
          have hTk := hid (hI.out.stop (st_end hr0 (by omega) he))
          have B0 := hB
          clear hb0 hI hr0 he hc
          go_wp2_with fail
          refine (E1.out _).mono ?_
          rintro e v1 ⟨rfl, b1⟩
          have B1 := hid (B0.out.trans (b1.mono B0.out.size))
          clear b1
          go_wp2
          go_ret
          exact ⟨by rw [hTk.out]; rfl, B1.out⟩
        · by_cases h45 : c.toNat = 45
          · have t1 : (((c.toNat : Nat) : Int) == 45) = true := by rw [h45]; rfl
            have hst2 := st_dash (small := sm) (st := 2) (d := d) hr0 (by decide) (.inl rfl) (hb0.trans h45)
            have HN := hid (hI.out.next hst2)
            have hd2 := dash_le (T := T) hst2 hd
            have hfar := (Raw.step_far hst2).2
            simp only at hfar
            rw [List.length_drop, HSL.out] at hfar
            have B0 := hB
            clear hst2 hb0 hI hr0 h45 he
            go_wp2_with fail
            refine (E1.out _).mono ?_
            rintro e v1 ⟨rfl, b1⟩
            have B1 := hid (B0.out.trans (b1.mono B0.out.size))
            clear b1
            go_wp2
            go_roundg (s.size - (k + 1))
            case measure => omega
            case rel => exact ⟨k + 1, 2, d + 1, by omega, by omega, by omega, by go_num, rfl, by go_num, by omega, hd2, HN, B1⟩
          have t1 : (((c.toNat : Nat) : Int) == 45) = false := by simp; omega
          have hn45 : U8.B (s.data.toList.drop k) 0 ≠ 45 := by rw [hb0]; exact h45
          by_cases h62 : c.toNat = 62
          · have t2 : (((c.toNat : Nat) : Int) == 62) = true := by rw [h62]; rfl
            by_cases hd2' : 2 ≤ d
            · have t3 : decide ((2 : Int) ≤ (d : Int)) = true := decide_eq_true (by omega)
              have t3N : decide (2 ≤ d) = true := decide_eq_true hd2'
              have hst2 := st_great (small := sm) (st := 2) (d := d) hr0 (by decide) (.inl rfl) (hb0.trans h62) hd2'
              have HN := hid (hI.out.next hst2)
              have hd2 := dash_le (T := T) hst2 hd
              have hfar := (Raw.step_far hst2).2
              simp only at hfar
              rw [List.length_drop, HSL.out] at hfar
              have B0 := hB
              clear hst2 hb0 hI hr0 h45 hn45 h62 he
              go_wp2_with fail
              refine (E1.out _).mono ?_
              rintro e v1 ⟨rfl, b1⟩
              have B1 := hid (B0.out.trans (b1.mono B0.out.size))
              clear b1
              go_wp2
              go_roundg (s.size - (k + 1))
              case measure => omega
              case rel => exact ⟨k + 1, 0, 0, by omega, by omega, by omega, by go_num, rfl, rfl, by omega, hd2, HN, B1⟩
            have t3 : decide ((2 : Int) ≤ (d : Int)) = false := decide_eq_false (by omega)
            have t3N : decide (2 ≤ d) = false := decide_eq_false hd2'
            have hgr : ¬ (U8.B (s.data.toList.drop k) 0 = 62 ∧ 2 ≤ d) := fun x => hd2' x.2
            have D1 := fun W => HD.out k hks W
            rw [show Raw.smallN (⟨#[115, 99, 114, 105, 112, 116]⟩ : ByteArray).data.toList = Raw.sEnd from by decide] at D1
            cases hw : Raw.endsB (s.data.toList.drop k) Raw.sEnd with
            | true =>
              rw [hw] at D1
              have D1 := hid D1
              have hst2 := st_deep_yes (d := d) (small := sm) hr0 hn45 hgr hw
              have HN := hid (hI.out.next hst2)
              have hd2 := dash_le (T := T) hst2 hd
              have hfar := (Raw.step_far hst2).2
              simp only at hfar
              rw [List.length_drop, HSL.out] at hfar
              have B0 := hB
              clear hst2 hb0 hI hr0 h45 hn45 hgr he h62 hd2' hw
              go_wp2_with fail
              refine (E1.out _).mono ?_
              rintro e v1 ⟨rfl, b1⟩
              have B1 := hid (B0.out.trans (b1.mono B0.out.size))
              clear b1
              go_wp2_with fail
              refine (D1.out _).mono ?_
              rintro e v2 ⟨rfl, b2⟩
              have B2 := hid (B1.out.trans (b2.mono B1.out.size))
              clear b2
              go_wp2
              go_roundg (s.size - (k + 9))
              case measure => omega
              case rel => exact ⟨k + 9, 1, 0, by omega, by omega, by omega, by go_num, rfl, rfl, by omega, hd2, HN, B2⟩
            | false =>
              rw [hw] at D1
              have D1 := hid D1
              have hst2 := st_deep_no (d := d) (small := sm) hr0 hn45 hgr hw
              have HN := hid (hI.out.next hst2)
              have hd2 := dash_le (T := T) hst2 hd
              have hfar := (Raw.step_far hst2).2
              simp only at hfar
              rw [List.length_drop, HSL.out] at hfar
              have B0 := hB
              clear hst2 hb0 hI hr0 h45 hn45 hgr he h62 hd2' hw
              go_wp2_with fail
              refine (E1.out _).mono ?_
              rintro e v1 ⟨rfl, b1⟩
              have B1 := hid (B0.out.trans (b1.mono B0.out.size))
              clear b1
              go_wp2_with fail
              refine (D1.out _).mono ?_
              rintro e v2 ⟨rfl, b2⟩
              have B2 := hid (B1.out.trans (b2.mono B1.out.size))
              clear b2
              go_wp2
              go_roundg (s.size - (k + 1))
              case measure => omega
              case rel => exact ⟨k + 1, 2, 0, by omega, by omega, by omega, by go_num, rfl, rfl, by omega, hd2, HN, B2⟩
          have t2 : (((c.toNat : Nat) : Int) == 62) = false := by simp; omega
          have hgr : ¬ (U8.B (s.data.toList.drop k) 0 = 62 ∧ 2 ≤ d) := fun x => h62 (hb0.symm.trans x.1)
          have D1 := fun W => HD.out k hks W
          rw [show Raw.smallN (⟨#[115, 99, 114, 105, 112, 116]⟩ : ByteArray).data.toList = Raw.sEnd from by decide] at D1
          cases hw : Raw.endsB (s.data.toList.drop k) Raw.sEnd with
          | true =>
            rw [hw] at D1
            have D1 := hid D1
            have hst2 := st_deep_yes (d := d) (small := sm) hr0 hn45 hgr hw
            have HN := hid (hI.out.next hst2)
            have hd2 := dash_le (T := T) hst2 hd
            have hfar := (Raw.step_far hst2).2
            simp only at hfar
            rw [List.length_drop, HSL.out] at hfar
            have B0 := hB
            clear hst2 hb0 hI hr0 h45 hn45 hgr he h62 hw
            go_wp2_with fail
            refine (E1.out _).mono ?_
            rintro e v1 ⟨rfl, b1⟩
            have B1 := hid (B0.out.trans (b1.mono B0.out.size))
            clear b1
            go_wp2_with fail
            refine (D1.out _).mono ?_
            rintro e v2 ⟨rfl, b2⟩
            have B2 := hid (B1.out.trans (b2.mono B1.out.size))
            clear b2
            go_wp2
            go_roundg (s.size - (k + 9))
            case measure => omega
            case rel => exact ⟨k + 9, 1, 0, by omega, by omega, by omega, by go_num, rfl, rfl, by omega, hd2, HN, B2⟩
          | false =>
            rw [hw] at D1
            have D1 := hid D1
            have hst2 := st_deep_no (d := d) (small := sm) hr0 hn45 hgr hw
            have HN := hid (hI.out.next hst2)
            have hd2 := dash_le (T := T) hst2 hd
            have hfar := (Raw.step_far hst2).2
            simp only at hfar
            rw [List.length_drop, HSL.out] at hfar
            have B0 := hB
            clear hst2 hb0 hI hr0 h45 hn45 hgr he h62 hw
            go_wp2_with fail
            refine (E1.out _).mono ?_
            rintro e v1 ⟨rfl, b1⟩
            have B1 := hid (B0.out.trans (b1.mono B0.out.size))
            clear b1
            go_wp2_with fail
            refine (D1.out _).mono ?_
            rintro e v2 ⟨rfl, b2⟩
            have B2 := hid (B1.out.trans (b2.mono B1.out.size))
            clear b2
            go_wp2
            go_roundg (s.size - (k + 1))
            case measure => omega
            case rel => exact ⟨k + 1, 2, 0, by omega, by omega, by omega, by go_num, rfl, rfl, by omega, hd2, HN, B2⟩
      | false =>
        rw [he] at E1
        have E1 := hid E1
        rcases (show st = 0 ∨ st = 1 ∨ st = 2 by omega) with rfl | rfl | rfl
        · have O1 := fun W => HO.out k hks W
          cases hw : Raw.wordB (s.data.toList.drop k) [60, 33, 45, 45] with
          | true =>
            rw [hw] at O1
            have O1 := hid O1
            have hst2 := st_out_yes (d := d) hr0 he hw
            have HN := hid (hI.out.next hst2)
            have hd2 := dash_le (T := T) hst2 hd
            have hfar := (Raw.step_far hst2).2
            simp only at hfar
            rw [List.length_drop, HSL.out] at hfar
            have B0 := hB
            clear hst2 hb0 hI hr0 he hw
            go_wp2_with fail
            refine (E1.out _).mono ?_
            rintro e v1 ⟨rfl, b1⟩
            have B1 := hid (B0.out.trans (b1.mono B0.out.size))
            clear b1
            go_wp2_with fail
            refine (O1.out _).mono ?_
            rintro e v2 ⟨rfl, b2⟩
            have B2 := hid (B1.out.trans (b2.mono B1.out.size))
            clear b2
            go_wp2
            go_roundg (s.size - (k + 4))
            case measure => omega
            case rel => exact ⟨k + 4, 1, 2, by omega, by omega, by omega, by go_num, rfl, rfl, by omega, hd2, HN, B2⟩
          | false =>
            rw [hw] at O1
            have O1 := hid O1
            have hst2 := st_out_no (d := d) hr0 he hw
            have HN := hid (hI.out.next hst2)
            have hd2 := dash_le (T := T) hst2 hd
            have hfar := (Raw.step_far hst2).2
            simp only at hfar
            rw [List.length_drop, HSL.out] at hfar
            have B0 := hB
            clear hst2 hb0 hI hr0 he hw
            go_wp2_with fail
            refine (E1.out _).mono ?_
            rintro e v1 ⟨rfl, b1⟩
            have B1 := hid (B0.out.trans (b1.mono B0.out.size))
            clear b1
            go_wp2_with fail
            refine (O1.out _).mono ?_
            rintro e v2 ⟨rfl, b2⟩
            have B2 := hid (B1.out.trans (b2.mono B1.out.size))
            clear b2
            go_wp2
            go_roundg (s.size - (k + 1))
            case measure => omega
            case rel => exact ⟨k + 1, 0, d, by omega, by omega, by omega, by go_num, rfl, rfl, by omega, hd2, HN, B2⟩
        · by_cases h45 : c.toNat = 45
          · have t1 : (((c.toNat : Nat) : Int) == 45) = true := by rw [h45]; rfl
            have hst2 := st_dash (small := sm) (st := 1) (d := d) hr0 (by decide) (.inr he) (hb0.trans h45)
            have HN := hid (hI.out.next hst2)
            have hd2 := dash_le (T := T) hst2 hd
            have hfar := (Raw.step_far hst2).2
            simp only at hfar
            rw [List.length_drop, HSL.out] at hfar
            have B0 := hB
            clear hst2 hb0 hI hr0 h45 he
            go_wp2_with fail
            refine (E1.out _).mono ?_
            rintro e v1 ⟨rfl, b1⟩
            have B1 := hid (B0.out.trans (b1.mono B0.out.size))
            clear b1
            go_wp2
            go_roundg (s.size - (k + 1))
            case measure => omega
            case rel => exact ⟨k + 1, 1, d + 1, by omega, by omega, by omega, by go_num, rfl, by go_num, by omega, hd2, HN, B1⟩
          have t1 : (((c.toNat : Nat) : Int) == 45) = false := by simp; omega
          have hn45 : U8.B (s.data.toList.drop k) 0 ≠ 45 := by rw [hb0]; exact h45
          by_cases h62 : c.toNat = 62
          · have t2 : (((c.toNat : Nat) : Int) == 62) = true := by rw [h62]; rfl
            by_cases hd2' : 2 ≤ d
            · have t3 : decide ((2 : Int) ≤ (d : Int)) = true := decide_eq_true (by omega)
              have t3N : decide (2 ≤ d) = true := decide_eq_true hd2'
              have hst2 := st_great (small := sm) (st := 1) (d := d) hr0 (by decide) (.inr he) (hb0.trans h62) hd2'
              have HN := hid (hI.out.next hst2)
              have hd2 := dash_le (T := T) hst2 hd
              have hfar := (Raw.step_far hst2).2
              simp only at hfar
              rw [List.length_drop, HSL.out] at hfar
              have B0 := hB
              clear hst2 hb0 hI hr0 h45 hn45 h62 he
              go_wp2_with fail
              refine (E1.out _).mono ?_
              rintro e v1 ⟨rfl, b1⟩
              have B1 := hid (B0.out.trans (b1.mono B0.out.size))
              clear b1
              go_wp2
              go_roundg (s.size - (k + 1))
              case measure => omega
              case rel => exact ⟨k + 1, 0, 0, by omega, by omega, by omega, by go_num, rfl, rfl, by omega, hd2, HN, B1⟩
            have t3 : decide ((2 : Int) ≤ (d : Int)) = false := decide_eq_false (by omega)
            have t3N : decide (2 ≤ d) = false := decide_eq_false hd2'
            have hgr : ¬ (U8.B (s.data.toList.drop k) 0 = 62 ∧ 2 ≤ d) := fun x => hd2' x.2
            have S1 := fun W => HS.out k hks W
            cases hw : Raw.wordB (s.data.toList.drop k) [60, 115, 99, 114, 105, 112, 116] with
            | true =>
              rw [hw] at S1
              have S1 := hid S1
              have C1 := fun W => HC.out (k + 7) (by omega) W
              rw [show ((k + 7 : Nat) : Int) = (k : Int) + 7 by omega] at C1
              have hdd : (s.data.toList.drop k).drop 7 = s.data.toList.drop (k + 7) := by rw [List.drop_drop]
              cases hcl : Raw.closedB (s.data.toList.drop (k + 7)) with
              | true =>
                rw [hcl] at C1
                have C1 := hid C1
                have hst2 := st_in_yes (d := d) hr0 he hn45 hgr hw (by rw [hdd]; exact hcl)
                have HN := hid (hI.out.next hst2)
                have hd2 := dash_le (T := T) hst2 hd
                have hfar := (Raw.step_far hst2).2
                simp only at hfar
                rw [List.length_drop, HSL.out] at hfar
                have B0 := hB
                clear hst2 hb0 hI hr0 h45 hn45 hgr he h62 hd2' hw hcl hdd
                go_wp2_with fail
                refine (E1.out _).mono ?_
                rintro e v1 ⟨rfl, b1⟩
                have B1 := hid (B0.out.trans (b1.mono B0.out.size))
                clear b1
                go_wp2_with fail
                refine (S1.out _).mono ?_
                rintro e v2 ⟨rfl, b2⟩
                have B2 := hid (B1.out.trans (b2.mono B1.out.size))
                clear b2
                go_wp2_with fail
                refine (C1.out _).mono ?_
                rintro e v9 ⟨rfl, rfl⟩
                go_wp2
                go_roundg (s.size - (k + 8))
                case measure => omega
                case rel => exact ⟨k + 8, 2, 0, by omega, by omega, by omega, by go_num, rfl, rfl, by omega, hd2, HN, B2⟩
              | false =>
                rw [hcl] at C1
                have C1 := hid C1
                have hst2 := st_in_no (d := d) hr0 he hn45 hgr (.inr (by rw [hdd]; exact hcl))
                have HN := hid (hI.out.next hst2)
                have hd2 := dash_le (T := T) hst2 hd
                have hfar := (Raw.step_far hst2).2
                simp only at hfar
                rw [List.length_drop, HSL.out] at hfar
                have B0 := hB
                clear hst2 hb0 hI hr0 h45 hn45 hgr he h62 hd2' hw hcl hdd
                go_wp2_with fail
                refine (E1.out _).mono ?_
                rintro e v1 ⟨rfl, b1⟩
                have B1 := hid (B0.out.trans (b1.mono B0.out.size))
                clear b1
                go_wp2_with fail
                refine (S1.out _).mono ?_
                rintro e v2 ⟨rfl, b2⟩
                have B2 := hid (B1.out.trans (b2.mono B1.out.size))
                clear b2
                go_wp2_with fail
                refine (C1.out _).mono ?_
                rintro e v9 ⟨rfl, rfl⟩
                go_wp2
                go_roundg (s.size - (k + 1))
                case measure => omega
                case rel => exact ⟨k + 1, 1, 0, by omega, by omega, by omega, by go_num, rfl, rfl, by omega, hd2, HN, B2⟩
            | false =>
              rw [hw] at S1
              have S1 := hid S1
              have hst2 := st_in_no (d := d) hr0 he hn45 hgr (.inl hw)
              have HN := hid (hI.out.next hst2)
              have hd2 := dash_le (T := T) hst2 hd
              have hfar := (Raw.step_far hst2).2
              simp only at hfar
              rw [List.length_drop, HSL.out] at hfar
              have B0 := hB
              clear hst2 hb0 hI hr0 h45 hn45 hgr he h62 hd2' hw
              go_wp2_with fail
              refine (E1.out _).mono ?_
              rintro e v1 ⟨rfl, b1⟩
              have B1 := hid (B0.out.trans (b1.mono B0.out.size))
              clear b1
              go_wp2_with fail
              refine (S1.out _).mono ?_
              rintro e v2 ⟨rfl, b2⟩
              have B2 := hid (B1.out.trans (b2.mono B1.out.size))
              clear b2
              go_wp2
              go_roundg (s.size - (k + 1))
              case measure => omega
              case rel => exact ⟨k + 1, 1, 0, by omega, by omega, by omega, by go_num, rfl, rfl, by omega, hd2, HN, B2⟩
          have t2 : (((c.toNat : Nat) : Int) == 62) = false := by simp; omega
          have hgr : ¬ (U8.B (s.data.toList.drop k) 0 = 62 ∧ 2 ≤ d) := fun x => h62 (hb0.symm.trans x.1)
          have S1 := fun W => HS.out k hks W
          cases hw : Raw.wordB (s.data.toList.drop k) [60, 115, 99, 114, 105, 112, 116] with
          | true =>
            rw [hw] at S1
            have S1 := hid S1
            have C1 := fun W => HC.out (k + 7) (by omega) W
            rw [show ((k + 7 : Nat) : Int) = (k : Int) + 7 by omega] at C1
            have hdd : (s.data.toList.drop k).drop 7 = s.data.toList.drop (k + 7) := by rw [List.drop_drop]
            cases hcl : Raw.closedB (s.data.toList.drop (k + 7)) with
            | true =>
              rw [hcl] at C1
              have C1 := hid C1
              have hst2 := st_in_yes (d := d) hr0 he hn45 hgr hw (by rw [hdd]; exact hcl)
              have HN := hid (hI.out.next hst2)
              have hd2 := dash_le (T := T) hst2 hd
              have hfar := (Raw.step_far hst2).2
              simp only at hfar
              rw [List.length_drop, HSL.out] at hfar
              have B0 := hB
              clear hst2 hb0 hI hr0 h45 hn45 hgr he h62 hw hcl hdd
              go_wp2_with fail
              refine (E1.out _).mono ?_
              rintro e v1 ⟨rfl, b1⟩
              have B1 := hid (B0.out.trans (b1.mono B0.out.size))
              clear b1
              go_wp2_with fail
              refine (S1.out _).mono ?_
              rintro e v2 ⟨rfl, b2⟩
              have B2 := hid (B1.out.trans (b2.mono B1.out.size))
              clear b2
              go_wp2_with fail
              refine (C1.out _).mono ?_
              rintro e v9 ⟨rfl, rfl⟩
              go_wp2
              go_roundg (s.size - (k + 8))
              case measure => omega
              case rel => exact ⟨k + 8, 2, 0, by omega, by omega, by omega, by go_num, rfl, rfl, by omega, hd2, HN, B2⟩
            | false =>
              rw [hcl] at C1
              have C1 := hid C1
              have hst2 := st_in_no (d := d) hr0 he hn45 hgr (.inr (by rw [hdd]; exact hcl))
              have HN := hid (hI.out.next hst2)
              have hd2 := dash_le (T := T) hst2 hd
              have hfar := (Raw.step_far hst2).2
              simp only at hfar
              rw [List.length_drop, HSL.out] at hfar
              have B0 := hB
              clear hst2 hb0 hI hr0 h45 hn45 hgr he h62 hw hcl hdd
              go_wp2_with fail
              refine (E1.out _).mono ?_
              rintro e v1 ⟨rfl, b1⟩
              have B1 := hid (B0.out.trans (b1.mono B0.out.size))
              clear b1
              go_wp2_with fail
              refine (S1.out _).mono ?_
              rintro e v2 ⟨rfl, b2⟩
              have B2 := hid (B1.out.trans (b2.mono B1.out.size))
              clear b2
              go_wp2_with fail
              refine (C1.out _).mono ?_
              rintro e v9 ⟨rfl, rfl⟩
              go_wp2
              go_roundg (s.size - (k + 1))
              case measure => omega
              case rel => exact ⟨k + 1, 1, 0, by omega, by omega, by omega, by go_num, rfl, rfl, by omega, hd2, HN, B2⟩
          | false =>
            rw [hw] at S1
            have S1 := hid S1
            have hst2 := st_in_no (d := d) hr0 he hn45 hgr (.inl hw)
            have HN := hid (hI.out.next hst2)
            have hd2 := dash_le (T := T) hst2 hd
            have hfar := (Raw.step_far hst2).2
            simp only at hfar
            rw [List.length_drop, HSL.out] at hfar
            have B0 := hB
            clear hst2 hb0 hI hr0 h45 hn45 hgr he h62 hw
            go_wp2_with fail
            refine (E1.out _).mono ?_
            rintro e v1 ⟨rfl, b1⟩
            have B1 := hid (B0.out.trans (b1.mono B0.out.size))
            clear b1
            go_wp2_with fail
            refine (S1.out _).mono ?_
            rintro e v2 ⟨rfl, b2⟩
            have B2 := hid (B1.out.trans (b2.mono B1.out.size))
            clear b2
            go_wp2
            go_roundg (s.size - (k + 1))
            case measure => omega
            case rel => exact ⟨k + 1, 1, 0, by omega, by omega, by omega, by go_num, rfl, rfl, by omega, hd2, HN, B2⟩
        · by_cases h45 : c.toNat = 45
          · have t1 : (((c.toNat : Nat) : Int) == 45) = true := by rw [h45]; rfl
            have hst2 := st_dash (small := sm) (st := 2) (d := d) hr0 (by decide) (.inl rfl) (hb0.trans h45)
            have HN := hid (hI.out.next hst2)
            have hd2 := dash_le (T := T) hst2 hd
            have hfar := (Raw.step_far hst2).2
            simp only at hfar
            rw [List.length_drop, HSL.out] at hfar
            have B0 := hB
            clear hst2 hb0 hI hr0 h45 he
            go_wp2_with fail
            refine (E1.out _).mono ?_
            rintro e v1 ⟨rfl, b1⟩
            have B1 := hid (B0.out.trans (b1.mono B0.out.size))
            clear b1
            go_wp2
            go_roundg (s.size - (k + 1))
            case measure => omega
            case rel => exact ⟨k + 1, 2, d + 1, by omega, by omega, by omega, by go_num, rfl, by go_num, by omega, hd2, HN, B1⟩
          have t1 : (((c.toNat : Nat) : Int) == 45) = false := by simp; omega
          have hn45 : U8.B (s.data.toList.drop k) 0 ≠ 45 := by rw [hb0]; exact h45
          by_cases h62 : c.toNat = 62
          · have t2 : (((c.toNat : Nat) : Int) == 62) = true := by rw [h62]; rfl
            by_cases hd2' : 2 ≤ d
            · have t3 : decide ((2 : Int) ≤ (d : Int)) = true := decide_eq_true (by omega)
              have t3N : decide (2 ≤ d) = true := decide_eq_true hd2'
              have hst2 := st_great (small := sm) (st := 2) (d := d) hr0 (by decide) (.inl rfl) (hb0.trans h62) hd2'
              have HN := hid (hI.out.next hst2)
              have hd2 := dash_le (T := T) hst2 hd
              have hfar := (Raw.step_far hst2).2
              simp only at hfar
              rw [List.length_drop, HSL.out] at hfar
              have B0 := hB
              clear hst2 hb0 hI hr0 h45 hn45 h62 he
              go_wp2_with fail
              refine (E1.out _).mono ?_
              rintro e v1 ⟨rfl, b1⟩
              have B1 := hid (B0.out.trans (b1.mono B0.out.size))
              clear b1
              go_wp2
              go_roundg (s.size - (k + 1))
              case measure => omega
              case rel => exact ⟨k + 1, 0, 0, by omega, by omega, by omega, by go_num, rfl, rfl, by omega, hd2, HN, B1⟩
            have t3 : decide ((2 : Int) ≤ (d : Int)) = false := decide_eq_false (by omega)
            have t3N : decide (2 ≤ d) = false := decide_eq_false hd2'
            have hgr : ¬ (U8.B (s.data.toList.drop k) 0 = 62 ∧ 2 ≤ d) := fun x => hd2' x.2
            have D1 := fun W => HD.out k hks W
            rw [show Raw.smallN (⟨#[115, 99, 114, 105, 112, 116]⟩ : ByteArray).data.toList = Raw.sEnd from by decide] at D1
            cases hw : Raw.endsB (s.data.toList.drop k) Raw.sEnd with
            | true =>
              rw [hw] at D1
              have D1 := hid D1
              have hst2 := st_deep_yes (d := d) (small := sm) hr0 hn45 hgr hw
              have HN := hid (hI.out.next hst2)
              have hd2 := dash_le (T := T) hst2 hd
              have hfar := (Raw.step_far hst2).2
              simp only at hfar
              rw [List.length_drop, HSL.out] at hfar
              have B0 := hB
              clear hst2 hb0 hI hr0 h45 hn45 hgr he h62 hd2' hw
              go_wp2_with fail
              refine (E1.out _).mono ?_
              rintro e v1 ⟨rfl, b1⟩
              have B1 := hid (B0.out.trans (b1.mono B0.out.size))
              clear b1
              go_wp2_with fail
              refine (D1.out _).mono ?_
              rintro e v2 ⟨rfl, b2⟩
              have B2 := hid (B1.out.trans (b2.mono B1.out.size))
              clear b2
              go_wp2
              go_roundg (s.size - (k + 9))
              case measure => omega
              case rel => exact ⟨k + 9, 1, 0, by omega, by omega, by omega, by go_num, rfl, rfl, by omega, hd2, HN, B2⟩
            | false =>
              rw [hw] at D1
              have D1 := hid D1
              have hst2 := st_deep_no (d := d) (small := sm) hr0 hn45 hgr hw
              have HN := hid (hI.out.next hst2)
              have hd2 := dash_le (T := T) hst2 hd
              have hfar := (Raw.step_far hst2).2
              simp only at hfar
              rw [List.length_drop, HSL.out] at hfar
              have B0 := hB
              clear hst2 hb0 hI hr0 h45 hn45 hgr he h62 hd2' hw
              go_wp2_with fail
              refine (E1.out _).mono ?_
              rintro e v1 ⟨rfl, b1⟩
              have B1 := hid (B0.out.trans (b1.mono B0.out.size))
              clear b1
              go_wp2_with fail
              refine (D1.out _).mono ?_
              rintro e v2 ⟨rfl, b2⟩
              have B2 := hid (B1.out.trans (b2.mono B1.out.size))
              clear b2
              go_wp2
              go_roundg (s.size - (k + 1))
              case measure => omega
              case rel => exact ⟨k + 1, 2, 0, by omega, by omega, by omega, by go_num, rfl, rfl, by omega, hd2, HN, B2⟩
          have t2 : (((c.toNat : Nat) : Int) == 62) = false := by simp; omega
          have hgr : ¬ (U8.B (s.data.toList.drop k) 0 = 62 ∧ 2 ≤ d) := fun x => h62 (hb0.symm.trans x.1)
          have D1 := fun W => HD.out k hks W
          rw [show Raw.smallN (⟨#[115, 99, 114, 105, 112, 116]⟩ : ByteArray).data.toList = Raw.sEnd from by decide] at D1
          cases hw : Raw.endsB (s.data.toList.drop k) Raw.sEnd with
          | true =>
            rw [hw] at D1
            have D1 := hid D1
            have hst2 := st_deep_yes (d := d) (small := sm) hr0 hn45 hgr hw
            have HN := hid (hI.out.next hst2)
            have hd2 := dash_le (T := T) hst2 hd
            have hfar := (Raw.step_far hst2).2
            simp only at hfar
            rw [List.length_drop, HSL.out] at hfar
            have B0 := hB
            clear hst2 hb0 hI hr0 h45 hn45 hgr he h62 hw
            go_wp2_with fail
            refine (E1.out _).mono ?_
            rintro e v1 ⟨rfl, b1⟩
            have B1 := hid (B0.out.trans (b1.mono B0.out.size))
            clear b1
            go_wp2_with fail
            refine (D1.out _).mono ?_
            rintro e v2 ⟨rfl, b2⟩
            have B2 := hid (B1.out.trans (b2.mono B1.out.size))
            clear b2
            go_wp2
            go_roundg (s.size - (k + 9))
            case measure => omega
            case rel => exact ⟨k + 9, 1, 0, by omega, by omega, by omega, by go_num, rfl, rfl, by omega, hd2, HN, B2⟩
          | false =>
            rw [hw] at D1
            have D1 := hid D1
            have hst2 := st_deep_no (d := d) (small := sm) hr0 hn45 hgr hw
            have HN := hid (hI.out.next hst2)
            have hd2 := dash_le (T := T) hst2 hd
            have hfar := (Raw.step_far hst2).2
            simp only at hfar
            rw [List.length_drop, HSL.out] at hfar
            have B0 := hB
            clear hst2 hb0 hI hr0 h45 hn45 hgr he h62 hw
            go_wp2_with fail
            refine (E1.out _).mono ?_
            rintro e v1 ⟨rfl, b1⟩
            have B1 := hid (B0.out.trans (b1.mono B0.out.size))
            clear b1
            go_wp2_with fail
            refine (D1.out _).mono ?_
            rintro e v2 ⟨rfl, b2⟩
            have B2 := hid (B1.out.trans (b2.mono B1.out.size))
            clear b2
            go_wp2
            go_roundg (s.size - (k + 1))
            case measure => omega
            case rel => exact ⟨k + 1, 2, 0, by omega, by omega, by omega, by go_num, rfl, rfl, by omega, hd2, HN, B2⟩
    · have d1 : decide (k < s.size) = false := decide_eq_false hlt
      have hltI : ¬ (k : Int) < (s.size : Int) := by omega
      have hTk := hid (hI.out.stop (by unfold Raw.step; rw [if_pos (by rw [List.length_drop, HSL.out]; omega)]))
      clear hI
      go_wp2
      go_ret
      exact ⟨by rw [hTk.out]; rfl, hB.out⟩
end Go.Proofs.YtgldgdopabmefaaGreatDoor
