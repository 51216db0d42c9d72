/- Walks: package ent, Mark. -/
import Derived.Test.YthfaogodiefefaaDoorReference
namespace Go.Proofs.YthfaogodiefefaaDoor
open Go.RowKit Go.Lib Ent
set_option maxRecDepth 100000
set_option linter.unusedVariables false

theorem semi_sign (l : List UInt8) (j : Nat) : semiW (l.drop j) = if signAt l j = true then 1 else 0 := by
  unfold semiW signAt
  rw [U8.B_drop, List.length_drop, Nat.add_zero]
  simp only [decide_eq_true_eq]
  congr 1
  exact propext ⟨fun ⟨a, b⟩ => ⟨by omega, b⟩, fun ⟨a, b⟩ => ⟨by omega, b⟩⟩
def markV (l : List UInt8) : Ending := .returned (.tuple #[.string ⟨(Ent.mark l).1.toArray⟩, .int .i64 (Ent.mark l).2])
theorem markV_eq {l i : List UInt8} {n : Nat} (h : Ent.mark l = (i, n)) : markV l = .returned (.tuple #[.string ⟨i.toArray⟩, .int .i64 n]) := by unfold markV; rw [h]

set_option maxHeartbeats 2000000 in
theorem mark_any (s : ByteArray) (w : World) (hs : s.size ≤ 1000000) :
    Calls Tryd.prog 17 #[.string s] w fun e w' => e = markV s.data.toList ∧ Below w.heap.size w w' := by
  have HC := Tryd.strings_CutPrefix s ⟨#[38]⟩ w
  rw [show (⟨#[38]⟩ : ByteArray).data.toList = [38] from rfl, pre1_eq] at HC
  have hsl := size_list s
  by_cases h : 0 < s.data.toList.length ∧ U8.B s.data.toList 0 = 38
  · have hpre : hasPrefix s.data.toList [38] = true := by rw [pre1_eq]; exact decide_eq_true h
    obtain ⟨q, hq⟩ : ∃ q, s.data.toList = 38 :: q := by
      cases hl : s.data.toList with
      | nil => rw [hl] at h; simp at h
      | cons a r =>
        have : U8.B (a :: r) 0 = a.toNat := rfl
        rw [hl, this] at h
        have ha : a = 38 := UInt8.toNat_inj.1 (show a.toNat = (38 : UInt8).toNat from h.2)
        exact ⟨r, by rw [ha]⟩
    have htp : trimPrefix s.data.toList [38] = q := by unfold trimPrefix; rw [if_pos hpre, hq]; rfl
    rw [show decide (0 < s.data.toList.length ∧ U8.B s.data.toList 0 = (38 : UInt8).toNat) = true from decide_eq_true h, htp] at HC
    have hm : Ent.mark s.data.toList = markR q := by rw [hq]; show (if (38 : UInt8) = 38 then markR q else ([], 0)) = _; rw [if_pos rfl]
    obtain ⟨r, hr⟩ : ∃ r : ByteArray, r = ⟨q.toArray⟩ := ⟨_, rfl⟩
    have hrl : r.data.toList = q := by rw [hr]
    have hrs : r.size = q.length := by rw [size_eq, hrl]
    have hql : q.length + 1 = s.size := by rw [← hsl, hq]; simp
    rw [← hr] at HC
    have HC := hid HC
    have HR := readNumeral_any r w (by omega)
    have HNm := fun w => named_any r w (by omega)
    have hrsz : r.size ≤ 1000000 := by omega
    rw [hrl] at HR HNm
    unfold namedV at HNm
    clear htp hpre hq h hr hql hsl
    by_cases hd : digs q = []
    · obtain ⟨v1, v2, v3, v4, hrn⟩ := read_no hd
      rw [hrn] at HR
      unfold numeralV at HR
      have e : markR q = if (named q).2 = 0 ∨ U8.B q ((named q).2 - 1) ≠ 59 then ([], 0) else ((named q).1, 1 + (named q).2) := by unfold markR; rw [if_neg (fun h => h hd)]
      have hnc := named_cases q
      obtain ⟨i, n, hin⟩ : ∃ i n, named q = (i, n) := ⟨_, _, rfl⟩
      rw [hin] at HNm e hnc
      simp only at HNm e hnc
      have hn8 : n ≤ 8 := hnc.2.1
      have hnl : n ≤ r.size := by omega
      have HR := hid HR
      have HNm := hid HNm
      clear hin hd hrn hnc
      by_cases hn0 : n = 0
      · rw [if_pos (.inl hn0)] at e
        have HE := hid (markV_eq (hm.trans e))
        subst hn0
        clear e hm
        go_enter Tryd.func17, Tryd.ntmps17
        go_wp2_with fail
        refine HC.out.mono ?_
        rintro e w' ⟨rfl, rfl⟩
        go_wp2_with fail
        refine HR.out.mono ?_
        rintro e w1 ⟨rfl, b1⟩
        have b2 := hid (b1.trans (((Below.refl w1.heap.size w1).alloc (Nat.le_refl _) (.cells #[.int .i64 v1, .int .i64 v2, .int .i64 v3, .int .i64 v4] 62)).mono b1.size))
        clear b1
        go_wp2_with fail
        refine (HNm.out _).mono ?_
        rintro e w2 ⟨rfl, b3⟩
        have b4 := hid (b2.out.trans (b3.mono b2.out.size))
        clear b3
        go_wp2
        go_ret2
        exact ⟨HE.out.symm, b4.out⟩
      · obtain ⟨k, rfl⟩ : ∃ k, n = k + 1 := ⟨n - 1, by omega⟩
        have hkl : k < r.size := by omega
        have hg := get_of r k hkl
        obtain ⟨c, hc⟩ : ∃ c, (r[k]'hkl) = c := ⟨_, rfl⟩
        rw [hc, hrl] at hg
        rw [Nat.add_sub_cancel, ← hg] at e
        clear hg
        by_cases h59 : c.toNat = 59
        · rw [if_neg (fun h => h.elim hn0 (fun h => h h59))] at e
          have HE := hid (markV_eq (hm.trans e))
          have t0 : ((c.toNat : Int) != 59) = false := by rw [h59]; rfl
          clear e hm h59 hn0
          go_enter Tryd.func17, Tryd.ntmps17
          go_wp2_with fail
          refine HC.out.mono ?_
          rintro e w' ⟨rfl, rfl⟩
          go_wp2_with fail
          refine HR.out.mono ?_
          rintro e w1 ⟨rfl, b1⟩
          have b2 := hid (b1.trans (((Below.refl w1.heap.size w1).alloc (Nat.le_refl _) (.cells #[.int .i64 v1, .int .i64 v2, .int .i64 v3, .int .i64 v4] 62)).mono b1.size))
          clear b1
          go_wp2_with fail
          refine (HNm.out _).mono ?_
          rintro e w2 ⟨rfl, b3⟩
          have b4 := hid (b2.out.trans (b3.mono b2.out.size))
          clear b3
          go_wp2
          go_ret2
          exact ⟨by rw [HE.out]; exact congrArg (fun x : Int => Ending.returned (.tuple #[.string ⟨i.toArray⟩, .int .i64 x])) (by omega), b4.out⟩
        · rw [if_pos (.inr h59)] at e
          have HE := hid (markV_eq (hm.trans e))
          have t0 : ((c.toNat : Int) != 59) = true := bne_iff_ne.2 (by omega)
          clear e hm h59 hn0
          go_enter Tryd.func17, Tryd.ntmps17
          go_wp2_with fail
          refine HC.out.mono ?_
          rintro e w' ⟨rfl, rfl⟩
          go_wp2_with fail
          refine HR.out.mono ?_
          rintro e w1 ⟨rfl, b1⟩
          have b2 := hid (b1.trans (((Below.refl w1.heap.size w1).alloc (Nat.le_refl _) (.cells #[.int .i64 v1, .int .i64 v2, .int .i64 v3, .int .i64 v4] 62)).mono b1.size))
          clear b1
          go_wp2_with fail
          refine (HNm.out _).mono ?_
          rintro e w2 ⟨rfl, b3⟩
          have b4 := hid (b2.out.trans (b3.mono b2.out.size))
          clear b3
          go_wp2
          go_ret2
          exact ⟨HE.out.symm, b4.out⟩
    · have h1 := digs_le hd
      rw [read_yes hd] at HR
      have e : markR q = if mostOf q < (digs q).length ∨ signAt q (numW q) = false then ([], 0) else (encN (charZ (numV q)).toNat, 2 + numW q) := by unfold markR; rw [if_pos hd]
      obtain ⟨c, hc1, hc2, hc3⟩ := char_char (numV q)
      rw [hc3] at e
      have HN : ∀ w, Calls Tryd.prog 27 #[.int .i64 (min (numV q : Int) 1114112)] w fun e w' => e = .returned (.int .i32 c) ∧ w = w' := fun w => by
        have := character_any (min (numV q : Int) 1114112) w
        rw [charZ_min _ _ (by omega), hc1] at this
        exact this
      have HS := fun w => semicolon_any (r.extract (numW q) r.size) w
      rw [extract_drop, hrl, semi_sign] at HS
      have HEn := hid (enc_ok hc2)
      obtain ⟨V, hV⟩ : ∃ V, min (numV q : Int) 1114112 = V := ⟨_, rfl⟩
      obtain ⟨W, hW⟩ : ∃ W, numW q = W := ⟨_, rfl⟩
      obtain ⟨D, hD⟩ : ∃ D, (digs q).length = D := ⟨_, rfl⟩
      obtain ⟨M, hM⟩ : ∃ M, mostOf q = M := ⟨_, rfl⟩
      rw [hV] at HR HN
      rw [hW] at HR HS h1 e
      rw [hD] at HR e
      rw [hM] at HR e
      obtain ⟨b, hb⟩ : ∃ b, signAt q W = b := ⟨_, rfl⟩
      rw [hb] at HS e
      have hWs : W ≤ r.size := by omega
      have HR := hid HR
      have HN := hid HN
      unfold numeralV at HR
      clear hV hW hD hM hb h1 hd hc1 hc2 hc3 hrl hrs HNm
      by_cases hmd : M < D
      · rw [if_pos (.inl hmd)] at e
        have HE := hid (markV_eq (hm.trans e))
        have t1 : decide (M < D) = true := decide_eq_true hmd
        clear e hm hmd HS
        go_enter Tryd.func17, Tryd.ntmps17
        go_wp2_with fail
        refine HC.out.mono ?_
        rintro e w' ⟨rfl, rfl⟩
        go_wp2_with fail
        refine HR.out.mono ?_
        rintro e w1 ⟨rfl, b1⟩
        have b2 := hid (b1.trans (((Below.refl w1.heap.size w1).alloc (Nat.le_refl _) (.cells #[.int .i64 V, .int .i64 D, .int .i64 M, .int .i64 W] 62)).mono b1.size))
        clear b1
        go_wp2
        go_ret2
        exact ⟨HE.out.symm, b2.out⟩
      · have t1 : decide (M < D) = false := decide_eq_false hmd
        cases b with
        | false =>
          rw [if_pos (.inr rfl)] at e
          have HE := hid (markV_eq (hm.trans e))
          rw [if_neg (by simp)] at HS
          have HS := hid HS
          clear e hm hmd
          go_enter Tryd.func17, Tryd.ntmps17
          go_wp2_with fail
          refine HC.out.mono ?_
          rintro e w' ⟨rfl, rfl⟩
          go_wp2_with fail
          refine HR.out.mono ?_
          rintro e w1 ⟨rfl, b1⟩
          have b2 := hid (b1.trans (((Below.refl w1.heap.size w1).alloc (Nat.le_refl _) (.cells #[.int .i64 V, .int .i64 D, .int .i64 M, .int .i64 W] 62)).mono b1.size))
          clear b1
          go_wp2_with fail
          refine (HS.out _).mono ?_
          rintro e w3 ⟨rfl, rfl⟩
          go_wp2
          go_ret2
          exact ⟨HE.out.symm, b2.out⟩
        | true =>
          rw [if_neg (by simp [hmd])] at e
          have HE := hid (markV_eq (hm.trans e))
          rw [if_pos rfl] at HS
          have HS := hid HS
          clear e hm hmd
          go_enter Tryd.func17, Tryd.ntmps17
          go_wp2_with fail
          refine HC.out.mono ?_
          rintro e w' ⟨rfl, rfl⟩
          go_wp2_with fail
          refine HR.out.mono ?_
          rintro e w1 ⟨rfl, b1⟩
          have b2 := hid (b1.trans (((Below.refl w1.heap.size w1).alloc (Nat.le_refl _) (.cells #[.int .i64 V, .int .i64 D, .int .i64 M, .int .i64 W] 62)).mono b1.size))
          clear b1
          go_wp2_with fail
          refine (HS.out _).mono ?_
          rintro e w3 ⟨rfl, rfl⟩
          go_wp2_with fail
          have hW7 : W ≤ 1000000 := by omega
          have c0 : (w1.alloc (.cells #[.int .i64 V, .int .i64 D, .int .i64 M, .int .i64 W] 62)).cell? ⟨w1.heap.size, 0, none⟩ = some (.int .i64 V) := by go_cell
          have c3 : (w1.alloc (.cells #[.int .i64 V, .int .i64 D, .int .i64 M, .int .i64 W] 62)).cell? ⟨w1.heap.size, 3, none⟩ = some (.int .i64 W) := by go_cell
          have hsum1 : IntKind.i64.wrap (1 + (W : Int)) = 1 + (W : Int) := by simp (disch := omega) only [IntWalk.i64_in]
          have hsum2 : IntKind.i64.wrap (1 + (W : Int) + 1) = 1 + (W : Int) + 1 := by simp (disch := omega) only [IntWalk.i64_in]
          generalize w1.alloc (.cells #[.int .i64 V, .int .i64 D, .int .i64 M, .int .i64 W] 62) = W1 at *
          go_quiet ((go_at_call 27; exact quiet_same (HN.out _)))
          go_wp2
          go_ret2
          exact ⟨by rw [HE.out, ← HEn.out]; exact congrArg (fun x : Int => Ending.returned (.tuple #[.string (Utf8.encode c), .int .i64 x])) (by omega), bel_drewN b2.out nq⟩
  · have hpre : hasPrefix s.data.toList [38] = false := by rw [pre1_eq]; exact decide_eq_false h
    have htp : trimPrefix s.data.toList [38] = s.data.toList := by unfold trimPrefix; rw [hpre]; rfl
    rw [show decide (0 < s.data.toList.length ∧ U8.B s.data.toList 0 = (38 : UInt8).toNat) = false from decide_eq_false h, htp] at HC
    have hm : Ent.mark s.data.toList = ([], 0) := by
      cases hl : s.data.toList with
      | nil => rfl
      | cons a r =>
        show (if a = 38 then markR r else ([], 0)) = _
        rw [if_neg]
        intro ha
        rw [hl] at h
        exact h ⟨by simp, by rw [ha]; rfl⟩
    have HE := hid (markV_eq hm)
    have HC := hid HC
    clear hm h hpre htp
    go_enter Tryd.func17, Tryd.ntmps17
    go_wp2_with fail
    refine HC.out.mono ?_
    rintro e w' ⟨rfl, rfl⟩
    go_wp2
    go_ret2
    exact ⟨HE.out.symm, Below.refl _ _⟩
end Go.Proofs.YthfaogodiefefaaDoor
