/- Walks over the reference of layer 7: Read. -/
import Derived.Test.YtgldgdopabmefaaGreatDoorRefNoteB
import Derived.Test.YtgldgdopabmefaaGreatDoorTwoW
import Derived.Test.YtgldgdopabmefaaGreatDoorRefLower
namespace Go.Proofs.YtgldgdopabmefaaGreatDoor
open Go.RowKit Go.Lib
set_option maxRecDepth 100000
set_option linter.unusedVariables false

theorem beg_first {r : List UInt8} (h : Note.begB r = true) : r[0]? = some 60 := by
  have key : ∀ q : UInt8, hasPrefix r [60, q] = true → r[0]? = some 60 := by
    intro q hq
    have := pre_two r 0 60 q
    rw [List.drop_zero, hq] at this
    have h2 := this.symm
    simp only [Bool.and_eq_true, decide_eq_true_eq] at h2
    exact h2.1
  unfold Note.begB at h
  simp only [Bool.or_eq_true, Bool.and_eq_true] at h
  rcases h with (h | h) | ⟨h, _⟩
  · exact key _ h
  · exact key _ h
  · exact key _ h
theorem ask_iff {s : ByteArray} {n : Nat} (hb : Note.begB (s.data.toList.drop n) = true) (h : n + 1 < s.size) : (((s[n + 1]'h).toNat : Int) == 63) = hasPrefix (s.data.toList.drop n) [60, 63] := by
  have h0 := beg_first hb
  have h1 : s.data.toList[n + 1]? = some (s[n + 1]'h) := by
    rw [List.getElem?_eq_getElem (by rw [size_list]; exact h)]
    rfl
  rw [List.getElem?_drop, Nat.add_zero] at h0
  rw [pre_two, h0, h1]
  rw [Bool.eq_iff_iff]
  simp
  constructor
  · intro e; exact UInt8.toNat_inj.1 (by show _ = 63; omega)
  · intro e; rw [e]; rfl
theorem not_doc {r : List UInt8} (h : hasPrefix r [60, 33] = false ∨ ¬ 9 ≤ r.length ∨ decide (lowL ((r.drop 2).take 7) = [100, 111, 99, 116, 121, 112, 101]) = false) : Note.doctypeB r = false := by
  rw [Note.doctype_iff]
  rcases h with h | h | h
  · rw [h, Bool.false_and]
  · rw [decide_eq_false h, Bool.false_and, Bool.and_false]
  · rw [h, Bool.and_false, Bool.and_false]
theorem low_eq {L t : List UInt8} {X : ByteArray} (h : (⟨L.toArray⟩ : ByteArray) = X) : (X.toList == t) = decide (L = t) := by
  rw [ByteArray.toList_eq, ← h]
  show (L == t) = _
  rw [Bool.eq_iff_iff]
  simp
theorem mid_low (s : ByteArray) (n : Nat) : (s.extract (n + 2) (n + 9)).data.toList = ((s.data.toList.drop n).drop 2).take 7 := by
  rw [← ByteArray.toList_eq, ext_mid, List.drop_drop, show n + 9 - (n + 2) = 7 by omega]
set_option maxHeartbeats 4000000 in
theorem rn_a (s : ByteArray) (n : Nat) (cd : Bool) (w : World) (hs : s.size ≤ 1000000) (hn : n ≤ s.size) (hb : begNI s.data.toList n = true) (h1 : hasPrefix (s.data.toList.drop n) [60, 33, 45, 45] = true) :
    Calls Tryz.prog 19 #[.string s, .int .i64 n, .bool cd] w fun e w' => e = .returned (noteV s.data.toList n cd) ∧ Below w.heap.size w w' := by
  have HB := fun W => rnbegins_any s n W hs (by omega)
  rw [show (decide (0 ≤ (n : Int)) && Note.begB (s.data.toList.drop ((n : Int)).toNat)) = true from hb] at HB
  have HB := hid HB
  have hsl := size_list s
  have HSL := hid hsl
  have hBB := hb
  rw [begNI_nat] at hBB
  have h2 := Note.beg_two hBB
  rw [List.length_drop, hsl] at h2
  have A1 := fun W => at_nat s ⟨#[60, 33, 45, 45]⟩ n [60, 33, 45, 45] W rfl (by decide) hs (by decide) (by omega)
  rw [h1] at A1
  have A1 := hid A1
  have hroom := Note.pre_room h1 (by decide)
  rw [hsl] at hroom
  have hr4 : n + 4 ≤ s.size := hroom
  have C := fun W => rcomment_any s (n + 4) W hs hr4
  have hff : Note.first (s.data.toList.drop n) cd = (4, (Note.comment (s.data.toList.drop (n + 4))).1, 4 + (Note.comment (s.data.toList.drop (n + 4))).2) := by
    unfold Note.first
    rw [h1, if_pos rfl, List.drop_drop]
  have hV := noteV_yes hb hff
  unfold rcomV at C
  generalize Note.comment (s.data.toList.drop (n + 4)) = R at *
  obtain ⟨Z, hZ⟩ : ∃ Z, bs R.1 = Z := ⟨_, rfl⟩
  rw [hZ] at C hV
  obtain ⟨m, hm⟩ : ∃ m : Nat, R.2 = m := ⟨_, rfl⟩
  rw [hm] at C hV
  rw [show ((n + 4 : Nat) : Int) = (n : Int) + 4 by omega] at C
  rw [show (n : Int) + ((4 + m : Nat) : Int) = (n : Int) + 4 + (m : Int) by omega] at hV
  have C := hid C
  have HV := hid hV
  clear h1 hff hV hZ hm hBB hsl hb hroom
  go_enter Tryz.func19, Tryz.ntmps19
  go_wp2_with fail
  refine (HB.out _).mono ?_
  rintro e w1 ⟨rfl, rfl⟩
  have TW := hid (two_new w)
  go_wp2_with fail
  generalize hWW : ((w.alloc (.cells #[.int .u8 0, .string ⟨#[]⟩, .slice none 0 0, .bool false, .string ⟨#[]⟩] 24)).alloc (.cells #[.int .u8 4, .string ⟨#[]⟩, .slice none 0 0, .bool false, .string ⟨#[]⟩] 24)) = W1 at TW ⊢
  clear hWW
  refine (A1.out _).mono ?_
  rintro e w2 ⟨rfl, rfl⟩
  go_wp2_with fail
  refine (C.out _).mono ?_
  rintro e w3 ⟨rfl, b3⟩
  have TW := hid (TW.out.below' b3)
  clear b3
  have TX := TW.out.text Z
  have g4 := TW.out.tok.free 4
  have u4 := TW.out.tok.cell 4
  simp only [List.getElem?_toArray, List.getElem?_cons_zero, List.getElem?_cons_succ] at u4
  have r0 := TX.res.cell 0
  have r1 := TX.res.cell 1
  have r2 := TX.res.cell 2
  have r3 := TX.res.cell 3
  have r4 := TX.res.cell 4
  have f0 := TX.res.free 0
  have f1 := TX.res.free 1
  have f2 := TX.res.free 2
  have f3 := TX.res.free 3
  have f4 := TX.res.free 4
  have t0 := TX.tok.cell 0
  have t1 := TX.tok.cell 1
  have t2 := TX.tok.cell 2
  have t3 := TX.tok.cell 3
  have t4 := TX.tok.cell 4
  simp only [List.getElem?_toArray, List.getElem?_cons_zero, List.getElem?_cons_succ] at r0 r1 r2 r3 r4 t0 t1 t2 t3 t4
  obtain ⟨W7, hW7, z0, z1, z2, z3, z4, hb7, _⟩ := tok_store TX.res TX.bel (Nat.le_refl _) (.int .u8 4) (.string ⟨#[]⟩) (.slice none 0 0) (.bool false) (.string Z)
  have HW7 := hid hW7
  have HB7 := hid hb7
  clear hW7 hb7 TX
  go_wp2
  rw [HW7.out]
  refine bodyPost_ret (v := .tuple #[.agg #[.int .u8 4, .string ⟨#[]⟩, .slice none 0 0, .bool false, .string Z], .int .i64 ((n : Int) + 4 + (m : Int))]) (by simp [results, Tryz.results19, go_sem, z0, z1, z2, z3, z4]) rfl ?_
  exact ⟨by rw [HV.out]; rfl, HB7.out⟩
set_option maxHeartbeats 4000000 in
theorem rn_b (s : ByteArray) (n : Nat) (cd : Bool) (w : World) (hs : s.size ≤ 1000000) (hn : n ≤ s.size) (hb : begNI s.data.toList n = true) (h1 : hasPrefix (s.data.toList.drop n) [60, 33, 45, 45] = false) (hd : Note.doctypeB (s.data.toList.drop n) = true) :
    Calls Tryz.prog 19 #[.string s, .int .i64 n, .bool cd] w fun e w' => e = .returned (noteV s.data.toList n cd) ∧ Below w.heap.size w w' := by
  have HB := fun W => rnbegins_any s n W hs (by omega)
  rw [show (decide (0 ≤ (n : Int)) && Note.begB (s.data.toList.drop ((n : Int)).toNat)) = true from hb] at HB
  have HB := hid HB
  have hsl := size_list s
  have HSL := hid hsl
  have hBB := hb
  rw [begNI_nat] at hBB
  have h2 := Note.beg_two hBB
  rw [List.length_drop, hsl] at h2
  have A1 := fun W => at_nat s ⟨#[60, 33, 45, 45]⟩ n [60, 33, 45, 45] W rfl (by decide) hs (by decide) (by omega)
  rw [h1] at A1
  have A1 := hid A1
  rw [Note.doctype_iff] at hd
  simp only [Bool.and_eq_true, decide_eq_true_eq] at hd
  obtain ⟨h33, h9, hlow⟩ := hd
  have hlow : decide (lowL (((s.data.toList.drop n).drop 2).take 7) = [100, 111, 99, 116, 121, 112, 101]) = true := decide_eq_true hlow
  have A3 := fun W => at_nat s ⟨#[60, 33]⟩ n [60, 33] W rfl (by decide) hs (by decide) (by omega)
  rw [h33] at A3
  have A3 := hid A3
  have l9 : n + 9 ≤ s.size := by rw [List.length_drop, hsl] at h9; omega
  have d9 : decide ((9 : Int) ≤ (s.size : Int) - (n : Int)) = true := decide_eq_true (by omega)
  have u1 : ((n : Int) + 2).toNat = n + 2 := by omega
  have u2 : ((n : Int) + 9).toNat = n + 9 := by omega
  have u3 : (0 : Int) ≤ (n : Int) + 2 := by omega
  have u4 : (n : Int) + 2 ≤ (n : Int) + 9 := by omega
  have u5 : (n : Int) + 9 ≤ (s.size : Int) := by omega
  have u6 : (0 : Int) ≤ (n : Int) + 9 := by omega
  have L := fun W => rlower_any (s.extract (n + 2) (n + 9)) W (by rw [← size_list, mid_low]; simp; omega)
  rw [mid_low] at L
  obtain ⟨X, hX⟩ : ∃ X : ByteArray, (⟨(lowL (((s.data.toList.drop n).drop 2).take 7)).toArray⟩ : ByteArray) = X := ⟨_, rfl⟩
  rw [hX] at L
  have L := hid L
  have hx := low_eq (t := [100, 111, 99, 116, 121, 112, 101]) hX
  rw [hlow] at hx
  have U := fun W => up_any s ⟨#[62]⟩ n [62] W rfl (by decide) hs (by decide) hn
  have hff : Note.first (s.data.toList.drop n) cd = (5, [], (Note.upTo (s.data.toList.drop n) [62]).2) := by
    unfold Note.first
    rw [if_neg (by rw [h1]; decide), if_pos (by rw [Note.doctype_iff, h33, decide_eq_true h9, hlow]; rfl)]
  have hV := noteV_yes hb hff
  generalize Note.upTo (s.data.toList.drop n) [62] = R at *
  obtain ⟨Z, hZ⟩ : ∃ Z, bs R.1 = Z := ⟨_, rfl⟩
  rw [hZ] at U
  obtain ⟨m, hm⟩ : ∃ m : Nat, R.2 = m := ⟨_, rfl⟩
  rw [hm] at U hV
  have U := hid U
  have HV := hid hV
  clear h1 hff hV hZ hm hBB hsl hb hX hlow h33 h9
  go_enter Tryz.func19, Tryz.ntmps19
  go_wp2_with fail
  refine (HB.out _).mono ?_
  rintro e w1 ⟨rfl, rfl⟩
  have TW := hid (two_new w)
  go_wp2_with fail
  generalize hWW : ((w.alloc (.cells #[.int .u8 0, .string ⟨#[]⟩, .slice none 0 0, .bool false, .string ⟨#[]⟩] 24)).alloc (.cells #[.int .u8 4, .string ⟨#[]⟩, .slice none 0 0, .bool false, .string ⟨#[]⟩] 24)) = W1 at TW ⊢
  clear hWW
  refine (A1.out _).mono ?_
  rintro e w2 ⟨rfl, rfl⟩
  go_wp2_with fail
  refine (A3.out _).mono ?_
  rintro e w2 ⟨rfl, rfl⟩
  go_wp2_with fail
  refine (L.out _).mono ?_
  rintro e w3 ⟨rfl, b3⟩
  have TW := hid (TW.out.below' b3)
  clear b3
  go_wp2_with fail
  refine (U.out _).mono ?_
  rintro e w4 ⟨rfl, rfl⟩
  have r0 := TW.out.res.cell 0
  have r1 := TW.out.res.cell 1
  have r2 := TW.out.res.cell 2
  have r3 := TW.out.res.cell 3
  have r4 := TW.out.res.cell 4
  have f0 := TW.out.res.free 0
  have f1 := TW.out.res.free 1
  have f2 := TW.out.res.free 2
  have f3 := TW.out.res.free 3
  have f4 := TW.out.res.free 4
  have t0 := TW.out.tok.cell 0
  have t1 := TW.out.tok.cell 1
  have t2 := TW.out.tok.cell 2
  have t3 := TW.out.tok.cell 3
  have t4 := TW.out.tok.cell 4
  simp only [List.getElem?_toArray, List.getElem?_cons_zero, List.getElem?_cons_succ] at r0 r1 r2 r3 r4 t0 t1 t2 t3 t4
  obtain ⟨W7, hW7, z0, z1, z2, z3, z4, hb7, _⟩ := tok_store TW.out.res TW.out.bel (Nat.le_refl _) (.int .u8 5) (.string ⟨#[]⟩) (.slice none 0 0) (.bool false) (.string ⟨#[]⟩)
  have HW7 := hid hW7
  have HB7 := hid hb7
  clear hW7 hb7
  go_wp2
  rw [HW7.out]
  refine bodyPost_ret (v := .tuple #[.agg #[.int .u8 5, .string ⟨#[]⟩, .slice none 0 0, .bool false, .string ⟨#[]⟩], .int .i64 ((n : Int) + (m : Int))]) (by simp [results, Tryz.results19, go_sem, z0, z1, z2, z3, z4]) rfl ?_
  exact ⟨by rw [HV.out]; rfl, HB7.out⟩
set_option maxHeartbeats 4000000 in
theorem rn_long_c_c (s : ByteArray) (n : Nat) (w : World) (hs : s.size ≤ 1000000) (hn : n ≤ s.size) (hb : begNI s.data.toList n = true) (h1 : hasPrefix (s.data.toList.drop n) [60, 33, 45, 45] = false) (h33 : hasPrefix (s.data.toList.drop n) [60, 33] = true) (h9 : 9 ≤ (s.data.toList.drop n).length) (hlow : decide (lowL (((s.data.toList.drop n).drop 2).take 7) = [100, 111, 99, 116, 121, 112, 101]) = false) (hC : hasPrefix (s.data.toList.drop n) [60, 33, 91, 67, 68, 65, 84, 65, 91] = true) :
    Calls Tryz.prog 19 #[.string s, .int .i64 n, .bool true] w fun e w' => e = .returned (noteV s.data.toList n true) ∧ Below w.heap.size w w' := by
  have HB := fun W => rnbegins_any s n W hs (by omega)
  rw [show (decide (0 ≤ (n : Int)) && Note.begB (s.data.toList.drop ((n : Int)).toNat)) = true from hb] at HB
  have HB := hid HB
  have hsl := size_list s
  have HSL := hid hsl
  have hBB := hb
  rw [begNI_nat] at hBB
  have h2 := Note.beg_two hBB
  rw [List.length_drop, hsl] at h2
  have A1 := fun W => at_nat s ⟨#[60, 33, 45, 45]⟩ n [60, 33, 45, 45] W rfl (by decide) hs (by decide) (by omega)
  rw [h1] at A1
  have A1 := hid A1
  have A3 := fun W => at_nat s ⟨#[60, 33]⟩ n [60, 33] W rfl (by decide) hs (by decide) (by omega)
  rw [h33] at A3
  have A3 := hid A3
  have hd := not_doc (.inr (.inr hlow))
  have l9 : n + 9 ≤ s.size := by rw [List.length_drop, hsl] at h9; omega
  have d9 : decide ((9 : Int) ≤ (s.size : Int) - (n : Int)) = true := decide_eq_true (by omega)
  have u1 : ((n : Int) + 2).toNat = n + 2 := by omega
  have u2 : ((n : Int) + 9).toNat = n + 9 := by omega
  have u3 : (0 : Int) ≤ (n : Int) + 2 := by omega
  have u4 : (n : Int) + 2 ≤ (n : Int) + 9 := by omega
  have u5 : (n : Int) + 9 ≤ (s.size : Int) := by omega
  have u6 : (0 : Int) ≤ (n : Int) + 9 := by omega
  have L := fun W => rlower_any (s.extract (n + 2) (n + 9)) W (by rw [← size_list, mid_low]; simp; omega)
  rw [mid_low] at L
  obtain ⟨X, hX⟩ : ∃ X : ByteArray, (⟨(lowL (((s.data.toList.drop n).drop 2).take 7)).toArray⟩ : ByteArray) = X := ⟨_, rfl⟩
  rw [hX] at L
  have L := hid L
  have hx := low_eq (t := [100, 111, 99, 116, 121, 112, 101]) hX
  rw [hlow] at hx
  have AC := fun W => at_nat s ⟨#[60, 33, 91, 67, 68, 65, 84, 65, 91]⟩ n [60, 33, 91, 67, 68, 65, 84, 65, 91] W rfl (by decide) hs (by decide) (by omega)
  rw [hC] at AC
  have AC := hid AC
  have U := fun W => up_any s ⟨#[93, 93, 62]⟩ (n + 9) [93, 93, 62] W rfl (by decide) hs (by decide) (by omega)
  have hff : Note.first (s.data.toList.drop n) true = (1, (Note.upTo (s.data.toList.drop (n + 9)) [93, 93, 62]).1, 9 + (Note.upTo (s.data.toList.drop (n + 9)) [93, 93, 62]).2) := by
    unfold Note.first
    rw [if_neg (by rw [h1]; decide), if_neg (by rw [hd]; decide), if_pos (by rw [hC]; rfl), List.drop_drop]
  have hV := noteV_yes hb hff
  generalize Note.upTo (s.data.toList.drop (n + 9)) [93, 93, 62] = R at *
  obtain ⟨Z, hZ⟩ : ∃ Z, bs R.1 = Z := ⟨_, rfl⟩
  rw [hZ] at U hV
  obtain ⟨m, hm⟩ : ∃ m : Nat, R.2 = m := ⟨_, rfl⟩
  rw [hm] at U hV
  rw [show ((n + 9 : Nat) : Int) = (n : Int) + 9 by omega] at U
  rw [show (n : Int) + ((9 + m : Nat) : Int) = (n : Int) + 9 + (m : Int) by omega] at hV
  have U := hid U
  have HV := hid hV
  clear h1 hff hV hBB hsl hb h33 hd h9 hlow hX hC hZ hm 
  go_enter Tryz.func19, Tryz.ntmps19
  go_wp2_with fail
  refine (HB.out _).mono ?_
  rintro e w1 ⟨rfl, rfl⟩
  have TW := hid (two_new w)
  go_wp2_with fail
  generalize hWW : ((w.alloc (.cells #[.int .u8 0, .string ⟨#[]⟩, .slice none 0 0, .bool false, .string ⟨#[]⟩] 24)).alloc (.cells #[.int .u8 4, .string ⟨#[]⟩, .slice none 0 0, .bool false, .string ⟨#[]⟩] 24)) = W1 at TW ⊢
  clear hWW
  refine (A1.out _).mono ?_
  rintro e w2 ⟨rfl, rfl⟩
  go_wp2_with fail
  refine (A3.out _).mono ?_
  rintro e w2 ⟨rfl, rfl⟩
  go_wp2_with fail
  refine (L.out _).mono ?_
  rintro e w3 ⟨rfl, b3⟩
  have TW := hid (TW.out.below' b3)
  clear b3
  go_wp2_with fail
  refine (AC.out _).mono ?_
  rintro e w2 ⟨rfl, rfl⟩
  go_wp2_with fail
  refine (U.out _).mono ?_
  rintro e w4 ⟨rfl, rfl⟩
  have r0 := TW.out.res.cell 0
  have r1 := TW.out.res.cell 1
  have r2 := TW.out.res.cell 2
  have r3 := TW.out.res.cell 3
  have r4 := TW.out.res.cell 4
  have f0 := TW.out.res.free 0
  have f1 := TW.out.res.free 1
  have f2 := TW.out.res.free 2
  have f3 := TW.out.res.free 3
  have f4 := TW.out.res.free 4
  have t0 := TW.out.tok.cell 0
  have t1 := TW.out.tok.cell 1
  have t2 := TW.out.tok.cell 2
  have t3 := TW.out.tok.cell 3
  have t4 := TW.out.tok.cell 4
  simp only [List.getElem?_toArray, List.getElem?_cons_zero, List.getElem?_cons_succ] at r0 r1 r2 r3 r4 t0 t1 t2 t3 t4
  obtain ⟨W7, hW7, z0, z1, z2, z3, z4, hb7, _⟩ := tok_store TW.out.res TW.out.bel (Nat.le_refl _) (.int .u8 1) (.string ⟨#[]⟩) (.slice none 0 0) (.bool false) (.string Z)
  have HW7 := hid hW7
  have HB7 := hid hb7
  clear hW7 hb7
  go_wp2
  rw [HW7.out]
  refine bodyPost_ret (v := .tuple #[.agg #[.int .u8 1, .string ⟨#[]⟩, .slice none 0 0, .bool false, .string Z], .int .i64 ((n : Int) + 9 + (m : Int))]) (by simp [results, Tryz.results19, go_sem, z0, z1, z2, z3, z4]) rfl ?_
  exact ⟨by rw [HV.out]; rfl, HB7.out⟩
set_option maxHeartbeats 4000000 in
theorem rn_no33_f_D (s : ByteArray) (n : Nat) (w : World) (hs : s.size ≤ 1000000) (hn : n ≤ s.size) (hb : begNI s.data.toList n = true) (h1 : hasPrefix (s.data.toList.drop n) [60, 33, 45, 45] = false) (h33 : hasPrefix (s.data.toList.drop n) [60, 33] = false) (hD : hasPrefix (s.data.toList.drop n) [60, 47, 62] = true) :
    Calls Tryz.prog 19 #[.string s, .int .i64 n, .bool false] w fun e w' => e = .returned (noteV s.data.toList n false) ∧ Below w.heap.size w w' := by
  have HB := fun W => rnbegins_any s n W hs (by omega)
  rw [show (decide (0 ≤ (n : Int)) && Note.begB (s.data.toList.drop ((n : Int)).toNat)) = true from hb] at HB
  have HB := hid HB
  have hsl := size_list s
  have HSL := hid hsl
  have hBB := hb
  rw [begNI_nat] at hBB
  have h2 := Note.beg_two hBB
  rw [List.length_drop, hsl] at h2
  have A1 := fun W => at_nat s ⟨#[60, 33, 45, 45]⟩ n [60, 33, 45, 45] W rfl (by decide) hs (by decide) (by omega)
  rw [h1] at A1
  have A1 := hid A1
  have A3 := fun W => at_nat s ⟨#[60, 33]⟩ n [60, 33] W rfl (by decide) hs (by decide) (by omega)
  rw [h33] at A3
  have A3 := hid A3
  have hd := not_doc (.inl h33)
  have AD := fun W => at_nat s ⟨#[60, 47, 62]⟩ n [60, 47, 62] W rfl (by decide) hs (by decide) (by omega)
  rw [hD] at AD
  have AD := hid AD
  have hff : Note.first (s.data.toList.drop n) false = (0, [], 3) := by
    unfold Note.first
    rw [if_neg (by rw [h1]; decide), if_neg (by rw [hd]; decide), if_neg (by rw [Bool.and_false]; decide), if_pos hD]
  have hV := noteV_yes hb hff
  have HV := hid hV
  clear h1 hff hV hBB hsl hb h33 hd hD 
  go_enter Tryz.func19, Tryz.ntmps19
  go_wp2_with fail
  refine (HB.out _).mono ?_
  rintro e w1 ⟨rfl, rfl⟩
  have TW := hid (two_new w)
  go_wp2_with fail
  generalize hWW : ((w.alloc (.cells #[.int .u8 0, .string ⟨#[]⟩, .slice none 0 0, .bool false, .string ⟨#[]⟩] 24)).alloc (.cells #[.int .u8 4, .string ⟨#[]⟩, .slice none 0 0, .bool false, .string ⟨#[]⟩] 24)) = W1 at TW ⊢
  clear hWW
  refine (A1.out _).mono ?_
  rintro e w2 ⟨rfl, rfl⟩
  go_wp2_with fail
  refine (A3.out _).mono ?_
  rintro e w2 ⟨rfl, rfl⟩
  go_wp2_with fail
  refine (AD.out _).mono ?_
  rintro e w2 ⟨rfl, rfl⟩
  have r0 := TW.out.res.cell 0
  have r1 := TW.out.res.cell 1
  have r2 := TW.out.res.cell 2
  have r3 := TW.out.res.cell 3
  have r4 := TW.out.res.cell 4
  have f0 := TW.out.res.free 0
  have f1 := TW.out.res.free 1
  have f2 := TW.out.res.free 2
  have f3 := TW.out.res.free 3
  have f4 := TW.out.res.free 4
  have t0 := TW.out.tok.cell 0
  have t1 := TW.out.tok.cell 1
  have t2 := TW.out.tok.cell 2
  have t3 := TW.out.tok.cell 3
  have t4 := TW.out.tok.cell 4
  simp only [List.getElem?_toArray, List.getElem?_cons_zero, List.getElem?_cons_succ] at r0 r1 r2 r3 r4 t0 t1 t2 t3 t4
  obtain ⟨W7, hW7, z0, z1, z2, z3, z4, hb7, _⟩ := tok_store TW.out.res TW.out.bel (Nat.le_refl _) (.int .u8 0) (.string ⟨#[]⟩) (.slice none 0 0) (.bool false) (.string ⟨#[]⟩)
  have HW7 := hid hW7
  have HB7 := hid hb7
  clear hW7 hb7
  go_wp2
  rw [HW7.out]
  refine bodyPost_ret (v := .tuple #[.agg #[.int .u8 0, .string ⟨#[]⟩, .slice none 0 0, .bool false, .string ⟨#[]⟩], .int .i64 ((n : Int) + 3)]) (by simp [results, Tryz.results19, go_sem, z0, z1, z2, z3, z4]) rfl ?_
  exact ⟨by rw [HV.out]; rfl, HB7.out⟩
set_option maxHeartbeats 4000000 in
theorem rn_no33_f_Q (s : ByteArray) (n : Nat) (w : World) (hs : s.size ≤ 1000000) (hn : n ≤ s.size) (hb : begNI s.data.toList n = true) (h1 : hasPrefix (s.data.toList.drop n) [60, 33, 45, 45] = false) (h33 : hasPrefix (s.data.toList.drop n) [60, 33] = false) (hD : hasPrefix (s.data.toList.drop n) [60, 47, 62] = false) (h63 : hasPrefix (s.data.toList.drop n) [60, 63] = true) :
    Calls Tryz.prog 19 #[.string s, .int .i64 n, .bool false] w fun e w' => e = .returned (noteV s.data.toList n false) ∧ Below w.heap.size w w' := by
  have HB := fun W => rnbegins_any s n W hs (by omega)
  rw [show (decide (0 ≤ (n : Int)) && Note.begB (s.data.toList.drop ((n : Int)).toNat)) = true from hb] at HB
  have HB := hid HB
  have hsl := size_list s
  have HSL := hid hsl
  have hBB := hb
  rw [begNI_nat] at hBB
  have h2 := Note.beg_two hBB
  rw [List.length_drop, hsl] at h2
  have A1 := fun W => at_nat s ⟨#[60, 33, 45, 45]⟩ n [60, 33, 45, 45] W rfl (by decide) hs (by decide) (by omega)
  rw [h1] at A1
  have A1 := hid A1
  have A3 := fun W => at_nat s ⟨#[60, 33]⟩ n [60, 33] W rfl (by decide) hs (by decide) (by omega)
  rw [h33] at A3
  have A3 := hid A3
  have hd := not_doc (.inl h33)
  have AD := fun W => at_nat s ⟨#[60, 47, 62]⟩ n [60, 47, 62] W rfl (by decide) hs (by decide) (by omega)
  rw [hD] at AD
  have AD := hid AD
  have hn1 : n + 1 < s.size := by omega
  have hak := ask_iff hBB hn1
  obtain ⟨c, hc⟩ : ∃ c, s[n + 1]'hn1 = c := ⟨_, rfl⟩
  rw [hc, h63] at hak
  have v1 : ((n : Int) + 1).toNat = n + 1 := by omega
  have v2 : (0 : Int) ≤ (n : Int) + 1 := by omega
  have v3 : (n : Int) + 1 < (s.size : Int) := by omega
  have HAK := hid hak
  have hpo : Note.poorAt (s.data.toList.drop n) = 1 := by unfold Note.poorAt; rw [h63]; rfl
  have U := fun W => up_any s ⟨#[62]⟩ (n + 1) [62] W rfl (by decide) hs (by decide) (by omega)
  have hff : Note.first (s.data.toList.drop n) false = (4, (Note.upTo (s.data.toList.drop (n + 1)) [62]).1, 1 + (Note.upTo (s.data.toList.drop (n + 1)) [62]).2) := by
    unfold Note.first
    rw [if_neg (by rw [h1]; decide), if_neg (by rw [hd]; decide), if_neg (by rw [Bool.and_false]; decide), if_neg (by rw [hD]; decide), hpo, List.drop_drop]
  have hV := noteV_yes hb hff
  generalize Note.upTo (s.data.toList.drop (n + 1)) [62] = R at *
  obtain ⟨Z, hZ⟩ : ∃ Z, bs R.1 = Z := ⟨_, rfl⟩
  rw [hZ] at U hV
  obtain ⟨m, hm⟩ : ∃ m : Nat, R.2 = m := ⟨_, rfl⟩
  rw [hm] at U hV
  rw [show ((n + 1 : Nat) : Int) = (n : Int) + 1 by omega] at U
  rw [show (n : Int) + ((1 + m : Nat) : Int) = (n : Int) + 1 + (m : Int) by omega] at hV
  have U := hid U
  have HV := hid hV
  clear h1 hff hV hBB hsl hb h33 hd hD hZ hm h63 hpo 
  go_enter Tryz.func19, Tryz.ntmps19
  go_wp2_with fail
  refine (HB.out _).mono ?_
  rintro e w1 ⟨rfl, rfl⟩
  have TW := hid (two_new w)
  go_wp2_with fail
  generalize hWW : ((w.alloc (.cells #[.int .u8 0, .string ⟨#[]⟩, .slice none 0 0, .bool false, .string ⟨#[]⟩] 24)).alloc (.cells #[.int .u8 4, .string ⟨#[]⟩, .slice none 0 0, .bool false, .string ⟨#[]⟩] 24)) = W1 at TW ⊢
  clear hWW
  refine (A1.out _).mono ?_
  rintro e w2 ⟨rfl, rfl⟩
  go_wp2_with fail
  refine (A3.out _).mono ?_
  rintro e w2 ⟨rfl, rfl⟩
  go_wp2_with fail
  refine (AD.out _).mono ?_
  rintro e w2 ⟨rfl, rfl⟩
  go_wp2_with fail
  refine (U.out _).mono ?_
  rintro e w4 ⟨rfl, rfl⟩
  have TX := TW.out.text Z
  have g4 := TW.out.tok.free 4
  have u4 := TW.out.tok.cell 4
  simp only [List.getElem?_toArray, List.getElem?_cons_zero, List.getElem?_cons_succ] at u4
  have r0 := TX.res.cell 0
  have r1 := TX.res.cell 1
  have r2 := TX.res.cell 2
  have r3 := TX.res.cell 3
  have r4 := TX.res.cell 4
  have f0 := TX.res.free 0
  have f1 := TX.res.free 1
  have f2 := TX.res.free 2
  have f3 := TX.res.free 3
  have f4 := TX.res.free 4
  have t0 := TX.tok.cell 0
  have t1 := TX.tok.cell 1
  have t2 := TX.tok.cell 2
  have t3 := TX.tok.cell 3
  have t4 := TX.tok.cell 4
  simp only [List.getElem?_toArray, List.getElem?_cons_zero, List.getElem?_cons_succ] at r0 r1 r2 r3 r4 t0 t1 t2 t3 t4
  obtain ⟨W7, hW7, z0, z1, z2, z3, z4, hb7, _⟩ := tok_store TX.res TX.bel (Nat.le_refl _) (.int .u8 4) (.string ⟨#[]⟩) (.slice none 0 0) (.bool false) (.string Z)
  have HW7 := hid hW7
  have HB7 := hid hb7
  clear hW7 hb7 TX
  go_wp2
  rw [HW7.out]
  refine bodyPost_ret (v := .tuple #[.agg #[.int .u8 4, .string ⟨#[]⟩, .slice none 0 0, .bool false, .string Z], .int .i64 ((n : Int) + 1 + (m : Int))]) (by simp [results, Tryz.results19, go_sem, z0, z1, z2, z3, z4]) rfl ?_
  exact ⟨by rw [HV.out]; rfl, HB7.out⟩
set_option maxHeartbeats 4000000 in
theorem rn_no33_f_E (s : ByteArray) (n : Nat) (w : World) (hs : s.size ≤ 1000000) (hn : n ≤ s.size) (hb : begNI s.data.toList n = true) (h1 : hasPrefix (s.data.toList.drop n) [60, 33, 45, 45] = false) (h33 : hasPrefix (s.data.toList.drop n) [60, 33] = false) (hD : hasPrefix (s.data.toList.drop n) [60, 47, 62] = false) (h63 : hasPrefix (s.data.toList.drop n) [60, 63] = false) :
    Calls Tryz.prog 19 #[.string s, .int .i64 n, .bool false] w fun e w' => e = .returned (noteV s.data.toList n false) ∧ Below w.heap.size w w' := by
  have HB := fun W => rnbegins_any s n W hs (by omega)
  rw [show (decide (0 ≤ (n : Int)) && Note.begB (s.data.toList.drop ((n : Int)).toNat)) = true from hb] at HB
  have HB := hid HB
  have hsl := size_list s
  have HSL := hid hsl
  have hBB := hb
  rw [begNI_nat] at hBB
  have h2 := Note.beg_two hBB
  rw [List.length_drop, hsl] at h2
  have A1 := fun W => at_nat s ⟨#[60, 33, 45, 45]⟩ n [60, 33, 45, 45] W rfl (by decide) hs (by decide) (by omega)
  rw [h1] at A1
  have A1 := hid A1
  have A3 := fun W => at_nat s ⟨#[60, 33]⟩ n [60, 33] W rfl (by decide) hs (by decide) (by omega)
  rw [h33] at A3
  have A3 := hid A3
  have hd := not_doc (.inl h33)
  have AD := fun W => at_nat s ⟨#[60, 47, 62]⟩ n [60, 47, 62] W rfl (by decide) hs (by decide) (by omega)
  rw [hD] at AD
  have AD := hid AD
  have hn1 : n + 1 < s.size := by omega
  have hak := ask_iff hBB hn1
  obtain ⟨c, hc⟩ : ∃ c, s[n + 1]'hn1 = c := ⟨_, rfl⟩
  rw [hc, h63] at hak
  have v1 : ((n : Int) + 1).toNat = n + 1 := by omega
  have v2 : (0 : Int) ≤ (n : Int) + 1 := by omega
  have v3 : (n : Int) + 1 < (s.size : Int) := by omega
  have HAK := hid hak
  have hpo : Note.poorAt (s.data.toList.drop n) = 2 := by unfold Note.poorAt; rw [h63]; rfl
  have U := fun W => up_any s ⟨#[62]⟩ (n + 2) [62] W rfl (by decide) hs (by decide) (by omega)
  have hff : Note.first (s.data.toList.drop n) false = (4, (Note.upTo (s.data.toList.drop (n + 2)) [62]).1, 2 + (Note.upTo (s.data.toList.drop (n + 2)) [62]).2) := by
    unfold Note.first
    rw [if_neg (by rw [h1]; decide), if_neg (by rw [hd]; decide), if_neg (by rw [Bool.and_false]; decide), if_neg (by rw [hD]; decide), hpo, List.drop_drop]
  have hV := noteV_yes hb hff
  generalize Note.upTo (s.data.toList.drop (n + 2)) [62] = R at *
  obtain ⟨Z, hZ⟩ : ∃ Z, bs R.1 = Z := ⟨_, rfl⟩
  rw [hZ] at U hV
  obtain ⟨m, hm⟩ : ∃ m : Nat, R.2 = m := ⟨_, rfl⟩
  rw [hm] at U hV
  rw [show ((n + 2 : Nat) : Int) = (n : Int) + 2 by omega] at U
  rw [show (n : Int) + ((2 + m : Nat) : Int) = (n : Int) + 2 + (m : Int) by omega] at hV
  have U := hid U
  have HV := hid hV
  clear h1 hff hV hBB hsl hb h33 hd hD hZ hm h63 hpo 
  go_enter Tryz.func19, Tryz.ntmps19
  go_wp2_with fail
  refine (HB.out _).mono ?_
  rintro e w1 ⟨rfl, rfl⟩
  have TW := hid (two_new w)
  go_wp2_with fail
  generalize hWW : ((w.alloc (.cells #[.int .u8 0, .string ⟨#[]⟩, .slice none 0 0, .bool false, .string ⟨#[]⟩] 24)).alloc (.cells #[.int .u8 4, .string ⟨#[]⟩, .slice none 0 0, .bool false, .string ⟨#[]⟩] 24)) = W1 at TW ⊢
  clear hWW
  refine (A1.out _).mono ?_
  rintro e w2 ⟨rfl, rfl⟩
  go_wp2_with fail
  refine (A3.out _).mono ?_
  rintro e w2 ⟨rfl, rfl⟩
  go_wp2_with fail
  refine (AD.out _).mono ?_
  rintro e w2 ⟨rfl, rfl⟩
  go_wp2_with fail
  refine (U.out _).mono ?_
  rintro e w4 ⟨rfl, rfl⟩
  have TX := TW.out.text Z
  have g4 := TW.out.tok.free 4
  have u4 := TW.out.tok.cell 4
  simp only [List.getElem?_toArray, List.getElem?_cons_zero, List.getElem?_cons_succ] at u4
  have r0 := TX.res.cell 0
  have r1 := TX.res.cell 1
  have r2 := TX.res.cell 2
  have r3 := TX.res.cell 3
  have r4 := TX.res.cell 4
  have f0 := TX.res.free 0
  have f1 := TX.res.free 1
  have f2 := TX.res.free 2
  have f3 := TX.res.free 3
  have f4 := TX.res.free 4
  have t0 := TX.tok.cell 0
  have t1 := TX.tok.cell 1
  have t2 := TX.tok.cell 2
  have t3 := TX.tok.cell 3
  have t4 := TX.tok.cell 4
  simp only [List.getElem?_toArray, List.getElem?_cons_zero, List.getElem?_cons_succ] at r0 r1 r2 r3 r4 t0 t1 t2 t3 t4
  obtain ⟨W7, hW7, z0, z1, z2, z3, z4, hb7, _⟩ := tok_store TX.res TX.bel (Nat.le_refl _) (.int .u8 4) (.string ⟨#[]⟩) (.slice none 0 0) (.bool false) (.string Z)
  have HW7 := hid hW7
  have HB7 := hid hb7
  clear hW7 hb7 TX
  go_wp2
  rw [HW7.out]
  refine bodyPost_ret (v := .tuple #[.agg #[.int .u8 4, .string ⟨#[]⟩, .slice none 0 0, .bool false, .string Z], .int .i64 ((n : Int) + 2 + (m : Int))]) (by simp [results, Tryz.results19, go_sem, z0, z1, z2, z3, z4]) rfl ?_
  exact ⟨by rw [HV.out]; rfl, HB7.out⟩
end Go.Proofs.YtgldgdopabmefaaGreatDoor
