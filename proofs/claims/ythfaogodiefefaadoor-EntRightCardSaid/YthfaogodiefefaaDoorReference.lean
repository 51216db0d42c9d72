/- Walks: package ent, what an & stands for. -/
import Derived.Test.YthfaogodiefefaaDoorNumeral
import Derived.Test.YthfaogodiefefaaDoorNamed
namespace Go.Proofs.YthfaogodiefefaaDoor
open Go.RowKit Go.Lib Ent
set_option maxRecDepth 100000
set_option linter.unusedVariables false

theorem ctl_drew {w : World} (h : CtlTab w) (n : Nat) : CtlTab (w.drewN n) := h
theorem quiet_same {P : Program} {f : FuncId} {args : Array Value} {w : World} {n : Nat} {v : Value}
    (h : Calls P f args (w.drewN n) fun e w' => e = .returned v ∧ w.drewN n = w') : Calls P f args (w.drewN n) fun e w'' => e = .returned v ∧ ∃ m, w'' = w.drewN m :=
  Calls.quiet_of_same (h.mono fun _ _ ⟨a, b⟩ => ⟨a, b.symm⟩)
theorem num_char (n : Int) : ∃ c : Nat, numZ n = c ∧ OkC c ∧ (numZ n).toNat = c := by
  have h := numZ_ok n
  have h2 := numZ_okC n
  exact ⟨(numZ n).toNat, by omega, h2.2, rfl⟩
theorem char_char (n : Int) : ∃ c : Nat, charZ n = c ∧ OkC c ∧ (charZ n).toNat = c := by
  have h := numZ_ok n
  have h2 := charZ_okC n
  exact ⟨(charZ n).toNat, by omega, h2.2, rfl⟩
theorem read_yes {l : List UInt8} (h : digs l ≠ []) : readV l = .returned (.tuple #[numeralV (min (numV l : Int) 1114112) (digs l).length (mostOf l) (numW l), .bool true]) := by
  have h1 := digs_le h
  unfold readV
  rw [if_pos ⟨h1.2.2.1, h1.2.2.2.1⟩, decide_eq_true (by omega)]
theorem read_no {l : List UInt8} (h : digs l = []) : ∃ a b c d : Int, readV l = .returned (.tuple #[numeralV a b c d, .bool false]) := by
  unfold readV
  split
  · rw [decide_eq_false (by rw [h]; simp)]
    exact ⟨_, _, _, _, rfl⟩
  · exact ⟨_, _, _, _, rfl⟩

set_option maxHeartbeats 2000000 in
theorem reference_any (s : ByteArray) (attr : Bool) (w : World) (hs : s.size ≤ 1000000) (hT : CtlTab w) :
    Calls Tryd.prog 32 #[.string s, .bool attr] w fun e w' => e = .returned (.tuple #[.string ⟨(refer attr s.data.toList).1.toArray⟩, .int .i64 (refer attr s.data.toList).2]) ∧ Below w.heap.size w w' := by
  have HR := readNumeral_any s w hs
  have hsl := size_list s
  by_cases hd : digs s.data.toList = []
  · obtain ⟨v1, v2, v3, v4, hrn⟩ := read_no hd
    rw [hrn] at HR
    unfold numeralV at HR
    have e : refer attr s.data.toList = if (named s.data.toList).2 = 0 ∨ refuses attr s.data.toList = true then ([38], 0) else named s.data.toList := by unfold refer; rw [if_neg (fun h => h hd)]
    have HN := fun w => named_any s w hs
    unfold namedV at HN
    have hnc := named_cases s.data.toList
    obtain ⟨i, n, hin⟩ : ∃ i n, named s.data.toList = (i, n) := ⟨_, _, rfl⟩
    have er : refuses attr s.data.toList = (attr && decide (U8.B s.data.toList (n - 1) ≠ 59) && goesOn (s.data.toList.drop n)) := by unfold refuses; rw [hin]
    rw [hin] at HN e hnc
    simp only at HN e hnc
    have hn8 : n ≤ 8 := hnc.2.1
    have hnl : n ≤ s.size := by omega
    have HR := hid HR
    have HN := hid HN
    clear hin hd hrn hT hnc
    by_cases hn0 : n = 0
    · rw [if_pos (.inl hn0)] at e
      rw [e]
      subst hn0
      clear e er
      go_enter Tryd.func32, Tryd.ntmps32
      go_wp2_with fail
      refine HR.out.mono ?_
      rintro e w1 ⟨rfl, b1⟩
      have b2 := hid (b1.trans (((Below.refl w1.heap.size w1).alloc (Nat.le_refl _) (.cells #[.int .i64 v1, .int .i64 v2, .int .i64 v3, .int .i64 v4] 62)).mono b1.size))
      clear b1
      go_wp2_with fail
      refine (HN.out _).mono ?_
      rintro e w2 ⟨rfl, b3⟩
      have b4 := hid (b2.out.trans (b3.mono b2.out.size))
      clear b3
      go_wp2
      go_ret2
      exact ⟨rfl, b4.out⟩
    · obtain ⟨k, rfl⟩ : ∃ k, n = k + 1 := ⟨n - 1, by omega⟩
      clear hn0
      have hkl : k < s.size := by omega
      have hg := get_of s k hkl
      obtain ⟨c, hc⟩ : ∃ c, (s[k]'hkl) = c := ⟨_, rfl⟩
      rw [hc] at hg
      have HG := fun w => goesOn_any (s.extract (k + 1) s.size) w (by rw [size_eq, extract_drop, List.length_drop]; omega)
      rw [extract_drop] at HG
      rw [Nat.add_sub_cancel, ← hg] at er
      obtain ⟨g, hgo⟩ : ∃ g, goesOn (s.data.toList.drop (k + 1)) = g := ⟨_, rfl⟩
      rw [hgo] at HG er
      have HG := hid HG
      clear hgo hg
      cases attr with
      | false =>
        rw [if_neg (by rw [er]; simp)] at e
        rw [e]
        clear e er
        go_enter Tryd.func32, Tryd.ntmps32
        go_wp2_with fail
        refine HR.out.mono ?_
        rintro e w1 ⟨rfl, b1⟩
        have b2 := hid (b1.trans (((Below.refl w1.heap.size w1).alloc (Nat.le_refl _) (.cells #[.int .i64 v1, .int .i64 v2, .int .i64 v3, .int .i64 v4] 62)).mono b1.size))
        clear b1
        go_wp2_with fail
        refine (HN.out _).mono ?_
        rintro e w2 ⟨rfl, b3⟩
        have b4 := hid (b2.out.trans (b3.mono b2.out.size))
        clear b3
        go_wp2
        go_ret2
        exact ⟨rfl, b4.out⟩
      | true =>
        by_cases h59 : c.toNat = 59
        · rw [if_neg (by rw [er]; simp [h59])] at e
          rw [e]
          have t0 : ((c.toNat : Int) != 59) = false := by rw [h59]; rfl
          clear e er h59
          go_enter Tryd.func32, Tryd.ntmps32
          go_wp2_with fail
          refine HR.out.mono ?_
          rintro e w1 ⟨rfl, b1⟩
          have b2 := hid (b1.trans (((Below.refl w1.heap.size w1).alloc (Nat.le_refl _) (.cells #[.int .i64 v1, .int .i64 v2, .int .i64 v3, .int .i64 v4] 62)).mono b1.size))
          clear b1
          go_wp2_with fail
          refine (HN.out _).mono ?_
          rintro e w2 ⟨rfl, b3⟩
          have b4 := hid (b2.out.trans (b3.mono b2.out.size))
          clear b3
          go_wp2
          go_ret2
          exact ⟨rfl, b4.out⟩
        · have t0 : ((c.toNat : Int) != 59) = true := bne_iff_ne.2 (by omega)
          have er2 : refuses true s.data.toList = g := by rw [er]; simp [h59]
          rw [er2] at e
          clear er er2 h59
          cases g with
          | true =>
            rw [if_pos (.inr rfl)] at e
            rw [e]
            clear e
            go_enter Tryd.func32, Tryd.ntmps32
            go_wp2_with fail
            refine HR.out.mono ?_
            rintro e w1 ⟨rfl, b1⟩
            have b2 := hid (b1.trans (((Below.refl w1.heap.size w1).alloc (Nat.le_refl _) (.cells #[.int .i64 v1, .int .i64 v2, .int .i64 v3, .int .i64 v4] 62)).mono b1.size))
            clear b1
            go_wp2_with fail
            refine (HN.out _).mono ?_
            rintro e w2 ⟨rfl, b3⟩
            have b4 := hid (b2.out.trans (b3.mono b2.out.size))
            clear b3
            go_wp2_with fail
            refine (HG.out _).mono ?_
            rintro e w3 ⟨rfl, rfl⟩
            go_wp2
            go_ret2
            exact ⟨rfl, b4.out⟩
          | false =>
            rw [if_neg (by simp)] at e
            rw [e]
            clear e
            go_enter Tryd.func32, Tryd.ntmps32
            go_wp2_with fail
            refine HR.out.mono ?_
            rintro e w1 ⟨rfl, b1⟩
            have b2 := hid (b1.trans (((Below.refl w1.heap.size w1).alloc (Nat.le_refl _) (.cells #[.int .i64 v1, .int .i64 v2, .int .i64 v3, .int .i64 v4] 62)).mono b1.size))
            clear b1
            go_wp2_with fail
            refine (HN.out _).mono ?_
            rintro e w2 ⟨rfl, b3⟩
            have b4 := hid (b2.out.trans (b3.mono b2.out.size))
            clear b3
            go_wp2_with fail
            refine (HG.out _).mono ?_
            rintro e w3 ⟨rfl, rfl⟩
            go_wp2
            go_ret2
            exact ⟨rfl, b4.out⟩
  · have h1 := digs_le hd
    rw [read_yes hd] at HR
    have e : refer attr s.data.toList = (encN (numZ (numV s.data.toList)).toNat, numW s.data.toList + semiW (s.data.toList.drop (numW s.data.toList))) := by unfold refer; rw [if_pos hd]
    obtain ⟨c, hc1, hc2, hc3⟩ := num_char (numV s.data.toList)
    rw [e, hc3]
    have HN : ∀ w, CtlTab w → Calls Tryd.prog 13 #[.int .i64 (min (numV s.data.toList : Int) 1114112)] w fun e w' => e = .returned (.int .i32 c) ∧ w = w' := fun w hT => by
      have := number_any (min (numV s.data.toList : Int) 1114112) w hT
      rw [numZ_min _ _ (by omega), hc1] at this
      exact this
    have HS := fun w => semicolon_any (s.extract (numW s.data.toList) s.size) w
    rw [extract_drop] at HS
    have HE := hid (enc_ok hc2)
    have hsm : semiW (s.data.toList.drop (numW s.data.toList)) ≤ 1 := by unfold semiW; split <;> omega
    obtain ⟨V, hV⟩ : ∃ V, min (numV s.data.toList : Int) 1114112 = V := ⟨_, rfl⟩
    obtain ⟨W, hW⟩ : ∃ W, numW s.data.toList = W := ⟨_, rfl⟩
    obtain ⟨D, hD⟩ : ∃ D, (digs s.data.toList).length = D := ⟨_, rfl⟩
    obtain ⟨M, hM⟩ : ∃ M, mostOf s.data.toList = M := ⟨_, rfl⟩
    rw [hV] at HR HN
    rw [hW] at HR HS h1 hsm ⊢
    rw [hD] at HR
    rw [hM] at HR
    obtain ⟨m, hm⟩ : ∃ m, semiW (s.data.toList.drop W) = m := ⟨_, rfl⟩
    rw [hm] at HS hsm ⊢
    have hWs : W ≤ s.size := by omega
    have HR := hid HR
    have HN := hid HN
    have HS := hid HS
    have HT := hid hT
    unfold numeralV at HR
    clear hV hW hD hM hm h1 hd e hc1 hc2 hc3 hT
    go_enter Tryd.func32, Tryd.ntmps32
    go_wp2_with fail
    refine HR.out.mono ?_
    rintro e w1 ⟨rfl, b1⟩
    have T1 := hid (ctl_below HT.out b1)
    go_wp2
    have c0 : (w1.alloc (.cells #[.int .i64 V, .int .i64 D, .int .i64 M, .int .i64 W] 62)).cell? ⟨w1.heap.size, 0, none⟩ = some (.int .i64 V) := by go_cell
    have c3 : (w1.alloc (.cells #[.int .i64 V, .int .i64 D, .int .i64 M, .int .i64 W] 62)).cell? ⟨w1.heap.size, 3, none⟩ = some (.int .i64 W) := by go_cell
    have T2 := hid (ctl_below T1.out ((Below.refl w1.heap.size w1).alloc (Nat.le_refl _) (.cells #[.int .i64 V, .int .i64 D, .int .i64 M, .int .i64 W] 62)))
    have b2 := hid (b1.trans (((Below.refl w1.heap.size w1).alloc (Nat.le_refl _) (.cells #[.int .i64 V, .int .i64 D, .int .i64 M, .int .i64 W] 62)).mono b1.size))
    have hsum : IntKind.i64.wrap ((W : Int) + (m : Int)) = (W : Int) + m := by simp (disch := omega) only [IntWalk.i64_in]
    clear b1 T1
    generalize w1.alloc (.cells #[.int .i64 V, .int .i64 D, .int .i64 M, .int .i64 W] 62) = W1 at *
    go_quiet ((first | (go_at_call 13; exact quiet_same (HN.out _ (ctl_drew T2.out _))) | (go_at_call 38; exact quiet_same (HS.out _))))
    go_wp2
    go_ret2
    exact ⟨by rw [← HE.out]; exact congrArg (fun x : Int => Ending.returned (.tuple #[.string (Utf8.encode c), .int .i64 x])) (Int.natCast_add W m).symm, bel_drewN b2.out nq⟩
end Go.Proofs.YthfaogodiefefaaDoor
