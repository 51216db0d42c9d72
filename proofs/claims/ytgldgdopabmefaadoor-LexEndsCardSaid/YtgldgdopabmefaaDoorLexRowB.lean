/- Walks: the statements LexEnds, LexWritten and LexFrom over what the program's Next and All are known to tell (LexNC, LexAC). EW: what the program's variables hold. -/
import Derived.Test.YtgldgdopabmefaaDoorLoopK
import Derived.Test.YtgldgdopabmefaaDoorLexWrit
import Derived.Test.YtgldgdopabmefaaDoorLexShift
namespace Go.Proofs.YtgldgdopabmefaaDoor
open Go.RowKit Go.Lib
set_option maxRecDepth 100000
set_option linter.unusedVariables false

theorem lx_cat (a b : List UInt8) : bs a ++ bs b = bs (a ++ b) := by
  apply ByteArray.ext
  rw [ByteArray.data_append]
  apply Array.ext'
  rw [Array.toList_append]
  rfl
theorem lx_size (l : List UInt8) : (bs l).size = l.length := by rw [size_eq]; rfl
theorem lx_one (s : ByteArray) (k : Nat) (hk : k < s.size) : s.extract k (k + 1) = bs [s[k]'hk] := by
  apply ByteArray.ext
  apply Array.ext'
  rw [extract_data]
  show (s.data.toList.drop k).take (k + 1 - k) = [s[k]'hk]
  rw [List.drop_eq_getElem_cons (by rw [size_list]; exact hk), show k + 1 - k = 1 by omega]
  rfl
theorem lx_drop (s : ByteArray) (k : Nat) : (s.extract k s.size).data.toList = s.data.toList.drop k := by
  rw [extract_data, List.take_of_length_le]
  rw [List.length_drop, size_list]
  exact Nat.le_refl _
theorem nextI_nat (l small : List UInt8) (m : Nat) (cd : Bool) (n : Nat) : nextI l small m cd (n : Int) = Lex.next l small m cd n := by
  unfold nextI
  rw [if_neg (by omega)]
  rfl
theorem lx_empty (l : List UInt8) (h : l ≠ []) : (bs l).toList.isEmpty = false := by
  rw [ByteArray.toList_eq]
  cases l with
  | nil => exact absurd rfl h
  | cons a t => rfl
set_option maxHeartbeats 4000000 in
theorem lends_any {EW : World → Prop} (HN : LexNC EW) (HA : LexAC EW) (HB : KeepsW EW) (s : ByteArray) (w : World) (hT : EW w) (ws : s.size ≤ maxLen) :
    Calls Tryd.prog 3 #[.string s] w fun e w' => e = .returned (.bool true) ∧ Below w.heap.size w w' := by
  unfold maxLen at ws
  have HT := hid hT
  have HK := hid (known9_any HN HA HB)
  have HBB := hid HB
  by_cases hs : 2000 < s.size
  · have hd : decide ((2000 : Int) < (s.size : Int)) = true := by simp; omega
    clear hT HN HA HB
    go_enter Tryd.func3, Tryd.ntmps3
    go_wp2_with fail
    refine (HK.out _ HT.out).mono ?_
    rintro e w1 ⟨rfl, b1⟩
    go_wp2
    go_ret
    exact ⟨rfl, b1⟩
  have hd : decide ((2000 : Int) < (s.size : Int)) = false := by simp; omega
  have HSL := hid (size_list s)
  have H1 := hid fun (k : Nat) W hW (hk : k ≤ 2000) => HN s ⟨#[]⟩ k 0 false W hW (by omega) (by decide) (by decide) (by omega)
  have H2 := hid fun W hW => HA s W hW (by omega)
  clear hT HN HA HB
  go_enter Tryd.func3, Tryd.ntmps3
  go_wp2_with fail
  refine (HK.out _ HT.out).mono ?_
  rintro e w1 ⟨rfl, b1⟩
  have B1 := hid b1
  clear b1
  go_wp2
  go_loopg [3, 4] s.size (fun g iv nv wr => ∃ k n : Nat, k ≤ s.size ∧ s.size - k ≤ g ∧ n ≤ k ∧ iv = .int .i64 k ∧ nv = .int .i64 n ∧ Hid (n + (Lex.allAt s.data.toList k).length = (Lex.allAt s.data.toList 0).length) ∧ Hid (Below w.heap.size w wr))
  case atStart => exact ⟨0, 0, by omega, by omega, by omega, rfl, rfl, hid (Nat.zero_add _), B1⟩
  case round =>
    obtain ⟨k, n, hk, hg, hn, rfl, rfl, hI, hB⟩ := hrel
    have HTk := hid (HBB.out _ _ HT.out hB.out)
    have E1 := H1.out k _ HTk.out (by omega)
    rw [nextI_nat] at E1
    have hsm : Raw.smallN (⟨#[]⟩ : ByteArray).data.toList = [60, 47] := rfl
    rw [hsm] at E1
    obtain ⟨X, hX⟩ : ∃ X, Lex.next s.data.toList [60, 47] 0 false k = X := ⟨_, rfl⟩
    have hall := Lex.next_all s.data.toList k
    have hend := @Lex.allAt_end s.data.toList k
    have hgo := @Lex.allAt_go s.data.toList k
    rw [hX] at E1 hall hend hgo
    obtain ⟨⟨kd, nm, ats, cl, tx⟩, k2⟩ := X
    clear hX hsm
    unfold LexE at E1
    simp only at E1 hall hend hgo
    rcases hall with hl | ⟨h1, h2, h3, h4, h5⟩
    · obtain ⟨hl1, rfl⟩ := Prod.mk.inj hl
      injection hl1 with g1 g2 g3 g4 g5
      subst g1
      rw [HSL.out] at E1
      have hcnt := hI.out
      rw [hend rfl, List.length_nil, Nat.add_zero] at hcnt
      have HA1 := H2
      have E1 := hid E1
      have dz : (((s.size : Nat) : Int) == (s.size : Int)) = true := by simp
      obtain ⟨N, hN⟩ : ∃ N, (Lex.allAt s.data.toList 0).length = N := ⟨_, rfl⟩
      rw [hN] at hcnt
      subst hcnt
      have dn : (((n : Nat) : Int) == (n : Int)) = true := by simp
      have HN2 := hid hN
      clear hN hend hgo hl g2 g3 g4 g5 hI
      go_wp2_with fail
      refine E1.out.mono ?_
      rintro e w2 ⟨⟨a1, k1, c1, rfl, _, _, _⟩, b2⟩
      unfold tokV
      have b3 := b2.alloc b2.size (.cells #[.int .u8 6, .string (bs nm), .slice a1 k1 c1, .bool cl, .string (bs tx)] 25)
      have y0 := (BlkW.new w2 #[.int .u8 6, .string (bs nm), .slice a1 k1 c1, .bool cl, .string (bs tx)] 25).cell 0
      simp only [List.getElem?_toArray, List.getElem?_cons_zero] at y0
      have B3 := hid (hB.out.trans (b3.mono hB.out.size))
      have HT3 := hid (HBB.out _ _ HT.out B3.out)
      clear b2 b3
      go_wp2_with fail
      refine (HA1.out _ HT3.out).mono ?_
      rintro e w3 ⟨⟨a2, c2, he, _, _⟩, b4⟩
      rw [HN2.out] at he
      subst he
      have B4 := hid (B3.out.trans (b4.mono B3.out.size))
      clear b4 y0
      go_wp2
      go_ret
      exact ⟨ret_bool' (by simp), B4.out⟩
    · rw [HSL.out] at h2
      have h3' : kd ≠ 6 := by simp only at h4; omega
      simp only at h3 h4 h5
      have hcnt := hI.out
      rw [hgo h3', List.length_cons] at hcnt
      have HN2 : Hid (n + 1 + (Lex.allAt s.data.toList k2).length = (Lex.allAt s.data.toList 0).length) := hid (by omega)
      have E1 := hid E1
      have t6 : ((kd : Int) == 6) = false := by simp; omega
      have d1 : decide ((k2 : Int) ≤ (k : Int)) = false := decide_eq_false (by omega)
      have d1N : decide (k2 ≤ k) = false := decide_eq_false (by omega)
      have d2 : decide ((s.size : Int) < (k2 : Int)) = false := decide_eq_false (by omega)
      have d2N : decide (s.size < k2) = false := decide_eq_false (by omega)
      have d3 : decide ((kd : Int) < 1) = false := decide_eq_false (by omega)
      have d3N : decide (kd < 1) = false := decide_eq_false (by omega)
      have d3Z : decide (kd = 0) = false := decide_eq_false (by omega)
      have d4 : decide ((5 : Int) < (kd : Int)) = false := decide_eq_false (by omega)
      have d4N : decide (5 < kd) = false := decide_eq_false (by omega)
      have hw : IntKind.i64.wrap ((n : Int) + 1) = (n : Int) + 1 := IntWalk.i64_in _ (by omega)
      by_cases hk1 : kd = 1
      · subst hk1
        have hem := lx_empty tx (h5 rfl)
        clear hend hgo hI hcnt h5
        go_wp2_with fail
        refine E1.out.mono ?_
        rintro e w2 ⟨⟨a1, k1, c1, rfl, _, _, _⟩, b2⟩
        unfold tokV
        have b3 := b2.alloc b2.size (.cells #[.int .u8 1, .string (bs nm), .slice a1 k1 c1, .bool cl, .string (bs tx)] 25)
        have y0 := (BlkW.new w2 #[.int .u8 1, .string (bs nm), .slice a1 k1 c1, .bool cl, .string (bs tx)] 25).cell 0
        have y4 := (BlkW.new w2 #[.int .u8 1, .string (bs nm), .slice a1 k1 c1, .bool cl, .string (bs tx)] 25).cell 4
        simp only [List.getElem?_toArray, List.getElem?_cons_zero, List.getElem?_cons_succ] at y0 y4
        have B3 := hid (hB.out.trans (b3.mono hB.out.size))
        clear b2 b3
        go_wp2
        go_roundg (s.size - k2)
        case measure => omega
        case rel => exact ⟨k2, n + 1, by omega, Nat.le_refl _, by omega, rfl, by go_num, HN2, B3⟩
      · have t1 : ((kd : Int) == 1) = false := by simp; omega
        clear hend hgo hI hcnt h5
        go_wp2_with fail
        refine E1.out.mono ?_
        rintro e w2 ⟨⟨a1, k1, c1, rfl, _, _, _⟩, b2⟩
        unfold tokV
        have b3 := b2.alloc b2.size (.cells #[.int .u8 kd, .string (bs nm), .slice a1 k1 c1, .bool cl, .string (bs tx)] 25)
        have y0 := (BlkW.new w2 #[.int .u8 kd, .string (bs nm), .slice a1 k1 c1, .bool cl, .string (bs tx)] 25).cell 0
        simp only [List.getElem?_toArray, List.getElem?_cons_zero] at y0
        have B3 := hid (hB.out.trans (b3.mono hB.out.size))
        clear b2 b3
        go_wp2
        go_roundg (s.size - k2)
        case measure => omega
        case rel => exact ⟨k2, n + 1, by omega, Nat.le_refl _, by omega, rfl, by go_num, HN2, B3⟩
set_option maxHeartbeats 4000000 in
theorem lwrit_any {EW : World → Prop} (HN : LexNC EW) (HA : LexAC EW) (HB : KeepsW EW) (s : ByteArray) (w : World) (hT : EW w) (ws : s.size ≤ maxLen) :
    Calls Tryd.prog 4 #[.string s] w fun e w' => e = .returned (.bool true) ∧ Below w.heap.size w w' := by
  unfold maxLen at ws
  have HT := hid hT
  have HK := hid (known9_any HN HA HB)
  have HBB := hid HB
  by_cases hs : 2000 < s.size
  · have hd : decide ((2000 : Int) < (s.size : Int)) = true := by simp; omega
    clear hT HN HA HB
    go_enter Tryd.func4, Tryd.ntmps4
    go_wp2_with fail
    refine (HK.out _ HT.out).mono ?_
    rintro e w1 ⟨rfl, b1⟩
    go_wp2
    go_ret
    exact ⟨rfl, b1⟩
  have hd : decide ((2000 : Int) < (s.size : Int)) = false := by simp; omega
  have HZ := hid (size_list s)
  have HO := hid (lx_one s)
  have HL := hid fun (k : Nat) (hk : k < s.size) => (show s.data.toList[k]? = some (s[k]'hk) by
    rw [List.getElem?_eq_getElem (by rw [size_list]; exact hk)]
    rfl)
  have hbl : bs s.data.toList = s := rfl
  obtain ⟨l, hl⟩ : ∃ l, s.data.toList = l := ⟨_, rfl⟩
  rw [hl] at HL HZ hbl
  have H2 := hid fun (O : ByteArray) W hW (h : O.size ≤ 10000) => HA O W hW (by omega)
  have HBL := hid hbl
  clear hT HN HA HB hl hbl
  go_enter Tryd.func4, Tryd.ntmps4
  go_wp2_with fail
  refine (HK.out _ HT.out).mono ?_
  rintro e w1 ⟨rfl, b1⟩
  have B1 := hid b1
  clear b1
  go_wp2
  go_loopg [3, 4] s.size (fun g ov iv wr => ∃ (k : Nat) (O : ByteArray), k + g = s.size ∧ iv = .int .i64 k ∧ ov = .string O ∧ Hid (O = bs (Lex.escl (l.take k))) ∧ w1 = wr)
  case atStart => exact ⟨0, ⟨#[]⟩, by omega, rfl, rfl, hid rfl, rfl⟩
  case round =>
    obtain ⟨k, O, hk, rfl, rfl, hO, rfl⟩ := hrel
    have hOs : O.size ≤ 10000 := by
      rw [hO.out, lx_size]
      have h1 := (Lex.escl_len (l.take k)).2
      rw [List.length_take] at h1
      omega
    have hOsI : (O.size : Int) ≤ 10000 := by omega
    by_cases hlt : k < s.size
    · have d1 : decide (k < s.size) = true := decide_eq_true hlt
      have hltI : (k : Int) < (s.size : Int) := by omega
      have hat := HL.out k hlt
      have hone := HO.out k hlt
      obtain ⟨c, hc⟩ : ∃ c, s[k]'hlt = c := ⟨_, rfl⟩
      rw [hc] at hat hone
      have hc256 := c.toNat_lt
      have hstep : ∀ z, bs (Lex.escB c) = z → O ++ z = bs (Lex.escl (l.take (k + 1))) := fun z hz => by
        rw [hO.out, ← hz, lx_cat, List.take_add_one, hat, Lex.escl_append]
        congr 2
        show Lex.escB c = Lex.escB c ++ []
        rw [List.append_nil]
      have q1 : ((k : Int)).toNat = k := by omega
      have q2 : ((k : Int) + 1).toNat = k + 1 := by omega
      have q3 : (k : Int) ≤ (k : Int) + 1 := by omega
      have q4 : (k : Int) + 1 ≤ (s.size : Int) := by omega
      have q5 : (0 : Int) ≤ (k : Int) + 1 := by omega
      by_cases h38 : c.toNat = 38
      · have b1 : (((c.toNat : Nat) : Int) == 38) = true := by simp [h38]
        have hc38 : c = 38 := UInt8.toNat_inj.1 h38
        have HN := hid (hstep ⟨#[38, 97, 109, 112, 59]⟩ (by rw [hc38]; rfl))
        clear hat hone hstep hO
        go_wp2
        go_roundg (s.size - (k + 1))
        case measure => omega
        case rel => exact ⟨k + 1, _, by omega, by go_num, rfl, HN, rfl⟩
      have b1 : (((c.toNat : Nat) : Int) == 38) = false := by simp; omega
      by_cases h60 : c.toNat = 60
      · have b2 : (((c.toNat : Nat) : Int) == 60) = true := by simp [h60]
        have hc60 : c = 60 := UInt8.toNat_inj.1 h60
        have HN := hid (hstep ⟨#[38, 108, 116, 59]⟩ (by rw [hc60]; rfl))
        clear hat hone hstep hO
        go_wp2
        go_roundg (s.size - (k + 1))
        case measure => omega
        case rel => exact ⟨k + 1, _, by omega, by go_num, rfl, HN, rfl⟩
      have b2 : (((c.toNat : Nat) : Int) == 60) = false := by simp; omega
      have HN := hid (hstep (s.extract k (k + 1)) (by
        rw [hone]
        have n1 : c ≠ 38 := fun e => h38 (by rw [e]; rfl)
        have n2 : c ≠ 60 := fun e => h60 (by rw [e]; rfl)
        simp [Lex.escB, n1, n2]))
      clear hat hone hstep hO
      go_wp2
      go_roundg (s.size - (k + 1))
      case measure => omega
      case rel => exact ⟨k + 1, _, by omega, by go_num, rfl, HN, rfl⟩
    · have d1 : decide (k < s.size) = false := decide_eq_false hlt
      have hltI : ¬ (k : Int) < (s.size : Int) := by omega
      have hOe : O = bs (Lex.escl l) := by rw [hO.out, List.take_of_length_le (by rw [HZ.out]; omega)]
      have HOl : O.data.toList = Lex.escl l := by rw [hOe]; rfl
      have HT1 := hid (HBB.out _ _ HT.out B1.out)
      have E2 := H2.out O _ HT1.out hOs
      unfold AllE at E2
      rw [HOl] at E2
      have HBn := B1
      by_cases h0 : l = []
      · have hem : s.toList.isEmpty = true := by rw [← HBL.out, h0, ByteArray.toList_eq]; rfl
        have hall : Lex.allAt (Lex.escl l) 0 = [] := by rw [h0]; exact Lex.all_nil
        rw [hall, List.length_nil] at E2
        have E2 := hid E2
        clear hO hOe HOl h0 hall
        go_wp2_with fail
        refine E2.out.mono ?_
        rintro e w3 ⟨⟨a2, c2, rfl, _, _⟩, b4⟩
        have B4 := hid (HBn.out.trans (b4.mono HBn.out.size))
        clear b4
        go_wp2
        go_ret
        exact ⟨rfl, B4.out⟩
      · have hem : s.toList.isEmpty = false := by rw [← HBL.out]; exact lx_empty l h0
        rw [Lex.all_escl h0] at E2
        have E2 := hid E2
        clear hO hOe HOl h0
        go_wp2_with fail
        refine E2.out.mono ?_
        rintro e w3 ⟨⟨a2, c2, rfl, t2, _⟩, b4⟩
        have B4 := hid (HBn.out.trans (b4.mono HBn.out.size))
        obtain ⟨b, off, rfl, hat⟩ := isT_at t2 (by show (1 : Nat) ≠ 0; decide)
        obtain ⟨p0, _, p4⟩ := hat 0 _ rfl
        simp only [Lex.ofText, Nat.zero_mul, Nat.add_zero] at p0 p4
        rw [HBL.out] at p4
        clear b4 t2 hat
        go_wp2
        go_ret
        exact ⟨ret_bool' (by simp), B4.out⟩
theorem lx_shift (l small : List UInt8) (m : Nat) (cd : Bool) (k : Nat) (hk : k ≤ l.length) : ∃ T n, nextI l small m cd (k : Int) = (T, k + n) ∧ nextI (l.drop k) small m cd ((0 : Nat) : Int) = (T, n) ∧ k + n ≤ l.length := by
  have h := Lex.next_sh l small m cd k 0 hk
  rw [Nat.add_zero] at h
  refine ⟨_, _, by rw [nextI_nat, h], by rw [nextI_nat], ?_⟩
  have h2 := Lex.next_grow l small m cd l.length k (by omega)
  rw [h] at h2
  rcases h2 with h2 | h2
  · have := congrArg Prod.snd h2
    simp only at this
    omega
  · exact h2.2.1
set_option maxHeartbeats 4000000 in
theorem lfrom_at {EW : World → Prop} (HN : LexNC EW) (HA : LexAC EW) (HB : KeepsW EW) (s name : ByteArray) (i : Int) (k m : Nat) (cd : Bool) (w : World) (hT : EW w) (ws : s.size ≤ 2000) (wn : name.size ≤ 2000) (hm : m < 256) (hi : -9223372036854775808 ≤ i ∧ i ≤ 9223372036854775807) (hk : max i 0 % ((s.size : Int) + 1) = k) (hks : k ≤ s.size) :
    Calls Tryd.prog 5 #[.string s, .int .i64 i, .int .u8 m, .string name, .bool cd] w fun e w' => e = .returned (.bool true) ∧ Below w.heap.size w w' := by
  have HT := hid hT
  have hd : decide ((2000 : Int) < (s.size : Int)) = false := by simp; omega
  have hd2 : decide ((2000 : Int) < (name.size : Int)) = false := by simp; omega
  have hsl := size_list s
  obtain ⟨X, n, x1, x2, x3⟩ := lx_shift s.data.toList (Raw.smallN name.data.toList) m cd k (by omega)
  have H1 := fun W hW => HN s name k m cd W hW (by omega) (by omega) hm (by omega)
  have H2 := fun W hW => HN (s.extract k s.size) name ((0 : Nat) : Int) m cd W hW (by rw [← size_list, lx_drop, List.length_drop]; omega) (by omega) hm (by omega)
  rw [x1] at H1
  rw [lx_drop, x2] at H2
  have hxs : (s.extract k s.size).size ≤ s.size := by rw [← size_list, lx_drop, List.length_drop]; omega
  have hxl : k + n ≤ s.size := by omega
  unfold LexE at H1 H2
  obtain ⟨K, NM, ats, cl, tx⟩ := X
  simp only at H1 H2
  have H1 := hid H1
  have H2 := hid H2
  have HK := hid (known9_any HN HA HB)
  have HBB := hid HB
  have HX := hid hxs
  have q1 : ((k : Int)).toNat = k := by omega
  have q2 : (0 : Int) ≤ (k : Int) := by omega
  have q3 : (k : Int) ≤ (s.size : Int) := by omega
  have w1 : IntKind.i64.wrap ((s.size : Int) + 1) = (s.size : Int) + 1 := IntWalk.i64_in _ (by omega)
  have w2 : IntKind.i64.wrap ((n : Int) + (k : Int)) = (n : Int) + (k : Int) := IntWalk.i64_in _ (by omega)
  have z1 : ¬ (s.size : Int) + 1 = 0 := by omega
  have e1 : ((k : Int) + (n : Int) == (n : Int) + (k : Int)) = true := by simp; omega
  clear hT HN HA HB x1 x2 hsl hxs x3
  go_enter Tryd.func5, Tryd.ntmps5
  go_wp2_with fail
  refine (HK.out _ HT.out).mono ?_
  rintro e v1 ⟨rfl, b1⟩
  have B1 := hid b1
  have HT1 := hid (HBB.out _ _ HT.out b1)
  clear b1
  go_wp2_with fail
  refine (H1.out _ HT1.out).mono ?_
  rintro e v2 ⟨⟨a1, k1, c1, rfl, i1, l1, _⟩, b1⟩
  unfold tokV
  have Z1 := hid (BlkW.new v2 #[.int .u8 K, .string (bs NM), .slice a1 k1 c1, .bool cl, .string (bs tx)] 25)
  have B2 := hid (B1.out.trans ((b1.alloc b1.size (.cells #[.int .u8 K, .string (bs NM), .slice a1 k1 c1, .bool cl, .string (bs tx)] 25)).mono B1.out.size))
  have I1 := hid (i1.below ((Below.refl v2.heap.size v2).alloc (Nat.le_refl _) (.cells #[.int .u8 K, .string (bs NM), .slice a1 k1 c1, .bool cl, .string (bs tx)] 25)))
  have HT2 := hid (HBB.out _ _ HT.out B2.out)
  clear b1 i1 B1 HT1
  go_wp2_with fail
  refine (H2.out _ HT2.out).mono ?_
  rintro e v3 ⟨⟨a2, k2, c2, rfl, i2, l2, _⟩, b2⟩
  unfold tokV
  have b3 := b2.alloc b2.size (.cells #[.int .u8 K, .string (bs NM), .slice a2 k2 c2, .bool cl, .string (bs tx)] 25)
  have L1 := hid (I1.out.below b3)
  have L2 := hid (i2.below ((Below.refl v3.heap.size v3).alloc (Nat.le_refl _) (.cells #[.int .u8 K, .string (bs NM), .slice a2 k2 c2, .bool cl, .string (bs tx)] 25)))
  have Z4 := Z1.out.below b3 Z1.out.lt
  have Y4 := BlkW.new v3 #[.int .u8 K, .string (bs NM), .slice a2 k2 c2, .bool cl, .string (bs tx)] 25
  have B4 := hid (B2.out.trans (b3.mono B2.out.size))
  have l2' := hid (Nat.le_trans l2 HX.out)
  have p0 := Z4.cell 0
  have p1 := Z4.cell 1
  have p2 := Z4.cell 2
  have p3 := Z4.cell 3
  have p4 := Z4.cell 4
  have y0 := Y4.cell 0
  have y1 := Y4.cell 1
  have y2 := Y4.cell 2
  have y3 := Y4.cell 3
  have y4 := Y4.cell 4
  simp only [List.getElem?_toArray, List.getElem?_cons_zero, List.getElem?_cons_succ] at p0 p1 p2 p3 p4 y0 y1 y2 y3 y4
  have n1 : v2.heap.size ≠ v3.heap.size := by have := Z1.out.lt; have := b2.size; omega
  clear b2 b3 i2 Z1 I1 Z4 Y4 l2
  go_wp2_with fail
  refine (sameTok_any K NM cl tx ats a1 k1 c1 a2 k2 c2 _ L1.out L2.out (by omega) (by have := l2'.out; omega)).mono ?_
  rintro e v4 ⟨rfl, b5⟩
  have B5 := hid (B4.out.trans (b5.mono B4.out.size))
  clear b5 p0 p1 p2 p3 p4 y0 y1 y2 y3 y4
  go_wp2
  go_ret
  exact ⟨ret_bool' (by simp), B5.out⟩
set_option maxHeartbeats 4000000 in
theorem lfrom_any {EW : World → Prop} (HN : LexNC EW) (HA : LexAC EW) (HB : KeepsW EW) (s name : ByteArray) (i : Int) (m : Nat) (cd : Bool) (w : World) (hT : EW w) (ws : s.size ≤ maxLen) (wn : name.size ≤ maxLen) (hm : m < 256) (hi : -9223372036854775808 ≤ i ∧ i ≤ 9223372036854775807) :
    Calls Tryd.prog 5 #[.string s, .int .i64 i, .int .u8 m, .string name, .bool cd] w fun e w' => e = .returned (.bool true) ∧ Below w.heap.size w w' := by
  unfold maxLen at ws wn
  have HT := hid hT
  by_cases hs : 2000 < s.size
  · have HK := hid (known9_any HN HA HB)
    have hd : decide ((2000 : Int) < (s.size : Int)) = true := by simp; omega
    clear hT HN HA HB
    go_enter Tryd.func5, Tryd.ntmps5
    go_wp2_with fail
    refine (HK.out _ HT.out).mono ?_
    rintro e w1 ⟨rfl, b1⟩
    go_wp2
    go_ret
    exact ⟨rfl, b1⟩
  by_cases hn : 2000 < name.size
  · have HK := hid (known9_any HN HA HB)
    have hd : decide ((2000 : Int) < (s.size : Int)) = false := by simp; omega
    have hd2 : decide ((2000 : Int) < (name.size : Int)) = true := by simp; omega
    clear hT HN HA HB
    go_enter Tryd.func5, Tryd.ntmps5
    go_wp2_with fail
    refine (HK.out _ HT.out).mono ?_
    rintro e w1 ⟨rfl, b1⟩
    go_wp2
    go_ret
    exact ⟨rfl, b1⟩
  have h1 : 0 ≤ max i 0 % ((s.size : Int) + 1) := Int.emod_nonneg _ (by omega)
  have h2 : max i 0 % ((s.size : Int) + 1) < (s.size : Int) + 1 := Int.emod_lt_of_pos _ (by omega)
  exact lfrom_at HN HA HB s name i (max i 0 % ((s.size : Int) + 1)).toNat m cd w hT (by omega) (by omega) hm hi (by omega) (by omega)
end Go.Proofs.YtgldgdopabmefaaDoor
