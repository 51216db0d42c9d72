/- Walks over the reference of layer 7: Read, the other ways. -/
import Derived.Test.YtgldgdopabmefaaGreatDoorRefNoteC
namespace Go.Proofs.YtgldgdopabmefaaGreatDoor
open Go.RowKit Go.Lib
set_option maxRecDepth 100000
set_option linter.unusedVariables false

set_option maxHeartbeats 4000000 in
theorem rn_no33_t_D (s : ByteArray) (n : Nat) (w : World) (hs : s.size ≤ 1000000) (hn : n ≤ s.size) (hb : begNI s.data.toList n = true) (h1 : hasPrefix (s.data.toList.drop n) [60, 33, 45, 45] = false) (h33 : hasPrefix (s.data.toList.drop n) [60, 33] = false) (hC : hasPrefix (s.data.toList.drop n) [60, 33, 91, 67, 68, 65, 84, 65, 91] = false) (hD : hasPrefix (s.data.toList.drop n) [60, 47, 62] = true) :
    Calls Tryz.prog 19 #[.string s, .int .i64 n, .bool true] w fun e w' => e = .returned (noteV s.data.toList n true) ∧ Below w.heap.size w w' := by
  have HB := fun W => rnbegins_any s n W hs (by omega)
  rw [show (decide (0 ≤ (n : Int)) && Note.begB (s.data.toList.drop ((n : Int)).toNat)) = true from hb] at HB
  have HB := hid HB
  have hsl := size_list s
  have HSL := hid hsl
  have hBB := hb
  rw [begNI_nat] at hBB
  have h2 := Note.beg_two hBB
  rw [List.length_drop, hsl] at h2
  have A1 := fun W => at_nat s ⟨#[60, 33, 45, 45]⟩ n [60, 33, 45, 45] W rfl (by decide) hs (by decide) (by omega)
  rw [h1] at A1
  have A1 := hid A1
  have A3 := fun W => at_nat s ⟨#[60, 33]⟩ n [60, 33] W rfl (by decide) hs (by decide) (by omega)
  rw [h33] at A3
  have A3 := hid A3
  have hd := not_doc (.inl h33)
  have AC := fun W => at_nat s ⟨#[60, 33, 91, 67, 68, 65, 84, 65, 91]⟩ n [60, 33, 91, 67, 68, 65, 84, 65, 91] W rfl (by decide) hs (by decide) (by omega)
  rw [hC] at AC
  have AC := hid AC
  have AD := fun W => at_nat s ⟨#[60, 47, 62]⟩ n [60, 47, 62] W rfl (by decide) hs (by decide) (by omega)
  rw [hD] at AD
  have AD := hid AD
  have hff : Note.first (s.data.toList.drop n) true = (0, [], 3) := by
    unfold Note.first
    rw [if_neg (by rw [h1]; decide), if_neg (by rw [hd]; decide), if_neg (by rw [hC]; decide), if_pos hD]
  have hV := noteV_yes hb hff
  have HV := hid hV
  clear h1 hff hV hBB hsl hb h33 hd hC hD 
  go_enter Tryz.func19, Tryz.ntmps19
  go_wp2_with fail
  refine (HB.out _).mono ?_
  rintro e w1 ⟨rfl, rfl⟩
  have TW := hid (two_new w)
  go_wp2_with fail
  generalize hWW : ((w.alloc (.cells #[.int .u8 0, .string ⟨#[]⟩, .slice none 0 0, .bool false, .string ⟨#[]⟩] 24)).alloc (.cells #[.int .u8 4, .string ⟨#[]⟩, .slice none 0 0, .bool false, .string ⟨#[]⟩] 24)) = W1 at TW ⊢
  clear hWW
  refine (A1.out _).mono ?_
  rintro e w2 ⟨rfl, rfl⟩
  go_wp2_with fail
  refine (A3.out _).mono ?_
  rintro e w2 ⟨rfl, rfl⟩
  go_wp2_with fail
  refine (AC.out _).mono ?_
  rintro e w2 ⟨rfl, rfl⟩
  go_wp2_with fail
  refine (AD.out _).mono ?_
  rintro e w2 ⟨rfl, rfl⟩
  have r0 := TW.out.res.cell 0
  have r1 := TW.out.res.cell 1
  have r2 := TW.out.res.cell 2
  have r3 := TW.out.res.cell 3
  have r4 := TW.out.res.cell 4
  have f0 := TW.out.res.free 0
  have f1 := TW.out.res.free 1
  have f2 := TW.out.res.free 2
  have f3 := TW.out.res.free 3
  have f4 := TW.out.res.free 4
  have t0 := TW.out.tok.cell 0
  have t1 := TW.out.tok.cell 1
  have t2 := TW.out.tok.cell 2
  have t3 := TW.out.tok.cell 3
  have t4 := TW.out.tok.cell 4
  simp only [List.getElem?_toArray, List.getElem?_cons_zero, List.getElem?_cons_succ] at r0 r1 r2 r3 r4 t0 t1 t2 t3 t4
  obtain ⟨W7, hW7, z0, z1, z2, z3, z4, hb7, _⟩ := tok_store TW.out.res TW.out.bel (Nat.le_refl _) (.int .u8 0) (.string ⟨#[]⟩) (.slice none 0 0) (.bool false) (.string ⟨#[]⟩)
  have HW7 := hid hW7
  have HB7 := hid hb7
  clear hW7 hb7
  go_wp2
  rw [HW7.out]
  refine bodyPost_ret (v := .tuple #[.agg #[.int .u8 0, .string ⟨#[]⟩, .slice none 0 0, .bool false, .string ⟨#[]⟩], .int .i64 ((n : Int) + 3)]) (by simp [results, Tryz.results19, go_sem, z0, z1, z2, z3, z4]) rfl ?_
  exact ⟨by rw [HV.out]; rfl, HB7.out⟩
set_option maxHeartbeats 4000000 in
theorem rn_no33_t_Q (s : ByteArray) (n : Nat) (w : World) (hs : s.size ≤ 1000000) (hn : n ≤ s.size) (hb : begNI s.data.toList n = true) (h1 : hasPrefix (s.data.toList.drop n) [60, 33, 45, 45] = false) (h33 : hasPrefix (s.data.toList.drop n) [60, 33] = false) (hC : hasPrefix (s.data.toList.drop n) [60, 33, 91, 67, 68, 65, 84, 65, 91] = false) (hD : hasPrefix (s.data.toList.drop n) [60, 47, 62] = false) (h63 : hasPrefix (s.data.toList.drop n) [60, 63] = true) :
    Calls Tryz.prog 19 #[.string s, .int .i64 n, .bool true] w fun e w' => e = .returned (noteV s.data.toList n true) ∧ Below w.heap.size w w' := by
  have HB := fun W => rnbegins_any s n W hs (by omega)
  rw [show (decide (0 ≤ (n : Int)) && Note.begB (s.data.toList.drop ((n : Int)).toNat)) = true from hb] at HB
  have HB := hid HB
  have hsl := size_list s
  have HSL := hid hsl
  have hBB := hb
  rw [begNI_nat] at hBB
  have h2 := Note.beg_two hBB
  rw [List.length_drop, hsl] at h2
  have A1 := fun W => at_nat s ⟨#[60, 33, 45, 45]⟩ n [60, 33, 45, 45] W rfl (by decide) hs (by decide) (by omega)
  rw [h1] at A1
  have A1 := hid A1
  have A3 := fun W => at_nat s ⟨#[60, 33]⟩ n [60, 33] W rfl (by decide) hs (by decide) (by omega)
  rw [h33] at A3
  have A3 := hid A3
  have hd := not_doc (.inl h33)
  have AC := fun W => at_nat s ⟨#[60, 33, 91, 67, 68, 65, 84, 65, 91]⟩ n [60, 33, 91, 67, 68, 65, 84, 65, 91] W rfl (by decide) hs (by decide) (by omega)
  rw [hC] at AC
  have AC := hid AC
  have AD := fun W => at_nat s ⟨#[60, 47, 62]⟩ n [60, 47, 62] W rfl (by decide) hs (by decide) (by omega)
  rw [hD] at AD
  have AD := hid AD
  have hn1 : n + 1 < s.size := by omega
  have hak := ask_iff hBB hn1
  obtain ⟨c, hc⟩ : ∃ c, s[n + 1]'hn1 = c := ⟨_, rfl⟩
  rw [hc, h63] at hak
  have v1 : ((n : Int) + 1).toNat = n + 1 := by omega
  have v2 : (0 : Int) ≤ (n : Int) + 1 := by omega
  have v3 : (n : Int) + 1 < (s.size : Int) := by omega
  have HAK := hid hak
  have hpo : Note.poorAt (s.data.toList.drop n) = 1 := by unfold Note.poorAt; rw [h63]; rfl
  have U := fun W => up_any s ⟨#[62]⟩ (n + 1) [62] W rfl (by decide) hs (by decide) (by omega)
  have hff : Note.first (s.data.toList.drop n) true = (4, (Note.upTo (s.data.toList.drop (n + 1)) [62]).1, 1 + (Note.upTo (s.data.toList.drop (n + 1)) [62]).2) := by
    unfold Note.first
    rw [if_neg (by rw [h1]; decide), if_neg (by rw [hd]; decide), if_neg (by rw [hC]; decide), if_neg (by rw [hD]; decide), hpo, List.drop_drop]
  have hV := noteV_yes hb hff
  generalize Note.upTo (s.data.toList.drop (n + 1)) [62] = R at *
  obtain ⟨Z, hZ⟩ : ∃ Z, bs R.1 = Z := ⟨_, rfl⟩
  rw [hZ] at U hV
  obtain ⟨m, hm⟩ : ∃ m : Nat, R.2 = m := ⟨_, rfl⟩
  rw [hm] at U hV
  rw [show ((n + 1 : Nat) : Int) = (n : Int) + 1 by omega] at U
  rw [show (n : Int) + ((1 + m : Nat) : Int) = (n : Int) + 1 + (m : Int) by omega] at hV
  have U := hid U
  have HV := hid hV
  clear h1 hff hV hBB hsl hb h33 hd hC hD hZ hm h63 hpo 
  go_enter Tryz.func19, Tryz.ntmps19
  go_wp2_with fail
  refine (HB.out _).mono ?_
  rintro e w1 ⟨rfl, rfl⟩
  have TW := hid (two_new w)
  go_wp2_with fail
  generalize hWW : ((w.alloc (.cells #[.int .u8 0, .string ⟨#[]⟩, .slice none 0 0, .bool false, .string ⟨#[]⟩] 24)).alloc (.cells #[.int .u8 4, .string ⟨#[]⟩, .slice none 0 0, .bool false, .string ⟨#[]⟩] 24)) = W1 at TW ⊢
  clear hWW
  refine (A1.out _).mono ?_
  rintro e w2 ⟨rfl, rfl⟩
  go_wp2_with fail
  refine (A3.out _).mono ?_
  rintro e w2 ⟨rfl, rfl⟩
  go_wp2_with fail
  refine (AC.out _).mono ?_
  rintro e w2 ⟨rfl, rfl⟩
  go_wp2_with fail
  refine (AD.out _).mono ?_
  rintro e w2 ⟨rfl, rfl⟩
  go_wp2_with fail
  refine (U.out _).mono ?_
  rintro e w4 ⟨rfl, rfl⟩
  have TX := TW.out.text Z
  have g4 := TW.out.tok.free 4
  have u4 := TW.out.tok.cell 4
  simp only [List.getElem?_toArray, List.getElem?_cons_zero, List.getElem?_cons_succ] at u4
  have r0 := TX.res.cell 0
  have r1 := TX.res.cell 1
  have r2 := TX.res.cell 2
  have r3 := TX.res.cell 3
  have r4 := TX.res.cell 4
  have f0 := TX.res.free 0
  have f1 := TX.res.free 1
  have f2 := TX.res.free 2
  have f3 := TX.res.free 3
  have f4 := TX.res.free 4
  have t0 := TX.tok.cell 0
  have t1 := TX.tok.cell 1
  have t2 := TX.tok.cell 2
  have t3 := TX.tok.cell 3
  have t4 := TX.tok.cell 4
  simp only [List.getElem?_toArray, List.getElem?_cons_zero, List.getElem?_cons_succ] at r0 r1 r2 r3 r4 t0 t1 t2 t3 t4
  obtain ⟨W7, hW7, z0, z1, z2, z3, z4, hb7, _⟩ := tok_store TX.res TX.bel (Nat.le_refl _) (.int .u8 4) (.string ⟨#[]⟩) (.slice none 0 0) (.bool false) (.string Z)
  have HW7 := hid hW7
  have HB7 := hid hb7
  clear hW7 hb7 TX
  go_wp2
  rw [HW7.out]
  refine bodyPost_ret (v := .tuple #[.agg #[.int .u8 4, .string ⟨#[]⟩, .slice none 0 0, .bool false, .string Z], .int .i64 ((n : Int) + 1 + (m : Int))]) (by simp [results, Tryz.results19, go_sem, z0, z1, z2, z3, z4]) rfl ?_
  exact ⟨by rw [HV.out]; rfl, HB7.out⟩
set_option maxHeartbeats 4000000 in
theorem rn_no33_t_E (s : ByteArray) (n : Nat) (w : World) (hs : s.size ≤ 1000000) (hn : n ≤ s.size) (hb : begNI s.data.toList n = true) (h1 : hasPrefix (s.data.toList.drop n) [60, 33, 45, 45] = false) (h33 : hasPrefix (s.data.toList.drop n) [60, 33] = false) (hC : hasPrefix (s.data.toList.drop n) [60, 33, 91, 67, 68, 65, 84, 65, 91] = false) (hD : hasPrefix (s.data.toList.drop n) [60, 47, 62] = false) (h63 : hasPrefix (s.data.toList.drop n) [60, 63] = false) :
    Calls Tryz.prog 19 #[.string s, .int .i64 n, .bool true] w fun e w' => e = .returned (noteV s.data.toList n true) ∧ Below w.heap.size w w' := by
  have HB := fun W => rnbegins_any s n W hs (by omega)
  rw [show (decide (0 ≤ (n : Int)) && Note.begB (s.data.toList.drop ((n : Int)).toNat)) = true from hb] at HB
  have HB := hid HB
  have hsl := size_list s
  have HSL := hid hsl
  have hBB := hb
  rw [begNI_nat] at hBB
  have h2 := Note.beg_two hBB
  rw [List.length_drop, hsl] at h2
  have A1 := fun W => at_nat s ⟨#[60, 33, 45, 45]⟩ n [60, 33, 45, 45] W rfl (by decide) hs (by decide) (by omega)
  rw [h1] at A1
  have A1 := hid A1
  have A3 := fun W => at_nat s ⟨#[60, 33]⟩ n [60, 33] W rfl (by decide) hs (by decide) (by omega)
  rw [h33] at A3
  have A3 := hid A3
  have hd := not_doc (.inl h33)
  have AC := fun W => at_nat s ⟨#[60, 33, 91, 67, 68, 65, 84, 65, 91]⟩ n [60, 33, 91, 67, 68, 65, 84, 65, 91] W rfl (by decide) hs (by decide) (by omega)
  rw [hC] at AC
  have AC := hid AC
  have AD := fun W => at_nat s ⟨#[60, 47, 62]⟩ n [60, 47, 62] W rfl (by decide) hs (by decide) (by omega)
  rw [hD] at AD
  have AD := hid AD
  have hn1 : n + 1 < s.size := by omega
  have hak := ask_iff hBB hn1
  obtain ⟨c, hc⟩ : ∃ c, s[n + 1]'hn1 = c := ⟨_, rfl⟩
  rw [hc, h63] at hak
  have v1 : ((n : Int) + 1).toNat = n + 1 := by omega
  have v2 : (0 : Int) ≤ (n : Int) + 1 := by omega
  have v3 : (n : Int) + 1 < (s.size : Int) := by omega
  have HAK := hid hak
  have hpo : Note.poorAt (s.data.toList.drop n) = 2 := by unfold Note.poorAt; rw [h63]; rfl
  have U := fun W => up_any s ⟨#[62]⟩ (n + 2) [62] W rfl (by decide) hs (by decide) (by omega)
  have hff : Note.first (s.data.toList.drop n) true = (4, (Note.upTo (s.data.toList.drop (n + 2)) [62]).1, 2 + (Note.upTo (s.data.toList.drop (n + 2)) [62]).2) := by
    unfold Note.first
    rw [if_neg (by rw [h1]; decide), if_neg (by rw [hd]; decide), if_neg (by rw [hC]; decide), if_neg (by rw [hD]; decide), hpo, List.drop_drop]
  have hV := noteV_yes hb hff
  generalize Note.upTo (s.data.toList.drop (n + 2)) [62] = R at *
  obtain ⟨Z, hZ⟩ : ∃ Z, bs R.1 = Z := ⟨_, rfl⟩
  rw [hZ] at U hV
  obtain ⟨m, hm⟩ : ∃ m : Nat, R.2 = m := ⟨_, rfl⟩
  rw [hm] at U hV
  rw [show ((n + 2 : Nat) : Int) = (n : Int) + 2 by omega] at U
  rw [show (n : Int) + ((2 + m : Nat) : Int) = (n : Int) + 2 + (m : Int) by omega] at hV
  have U := hid U
  have HV := hid hV
  clear h1 hff hV hBB hsl hb h33 hd hC hD hZ hm h63 hpo 
  go_enter Tryz.func19, Tryz.ntmps19
  go_wp2_with fail
  refine (HB.out _).mono ?_
  rintro e w1 ⟨rfl, rfl⟩
  have TW := hid (two_new w)
  go_wp2_with fail
  generalize hWW : ((w.alloc (.cells #[.int .u8 0, .string ⟨#[]⟩, .slice none 0 0, .bool false, .string ⟨#[]⟩] 24)).alloc (.cells #[.int .u8 4, .string ⟨#[]⟩, .slice none 0 0, .bool false, .string ⟨#[]⟩] 24)) = W1 at TW ⊢
  clear hWW
  refine (A1.out _).mono ?_
  rintro e w2 ⟨rfl, rfl⟩
  go_wp2_with fail
  refine (A3.out _).mono ?_
  rintro e w2 ⟨rfl, rfl⟩
  go_wp2_with fail
  refine (AC.out _).mono ?_
  rintro e w2 ⟨rfl, rfl⟩
  go_wp2_with fail
  refine (AD.out _).mono ?_
  rintro e w2 ⟨rfl, rfl⟩
  go_wp2_with fail
  refine (U.out _).mono ?_
  rintro e w4 ⟨rfl, rfl⟩
  have TX := TW.out.text Z
  have g4 := TW.out.tok.free 4
  have u4 := TW.out.tok.cell 4
  simp only [List.getElem?_toArray, List.getElem?_cons_zero, List.getElem?_cons_succ] at u4
  have r0 := TX.res.cell 0
  have r1 := TX.res.cell 1
  have r2 := TX.res.cell 2
  have r3 := TX.res.cell 3
  have r4 := TX.res.cell 4
  have f0 := TX.res.free 0
  have f1 := TX.res.free 1
  have f2 := TX.res.free 2
  have f3 := TX.res.free 3
  have f4 := TX.res.free 4
  have t0 := TX.tok.cell 0
  have t1 := TX.tok.cell 1
  have t2 := TX.tok.cell 2
  have t3 := TX.tok.cell 3
  have t4 := TX.tok.cell 4
  simp only [List.getElem?_toArray, List.getElem?_cons_zero, List.getElem?_cons_succ] at r0 r1 r2 r3 r4 t0 t1 t2 t3 t4
  obtain ⟨W7, hW7, z0, z1, z2, z3, z4, hb7, _⟩ := tok_store TX.res TX.bel (Nat.le_refl _) (.int .u8 4) (.string ⟨#[]⟩) (.slice none 0 0) (.bool false) (.string Z)
  have HW7 := hid hW7
  have HB7 := hid hb7
  clear hW7 hb7 TX
  go_wp2
  rw [HW7.out]
  refine bodyPost_ret (v := .tuple #[.agg #[.int .u8 4, .string ⟨#[]⟩, .slice none 0 0, .bool false, .string Z], .int .i64 ((n : Int) + 2 + (m : Int))]) (by simp [results, Tryz.results19, go_sem, z0, z1, z2, z3, z4]) rfl ?_
  exact ⟨by rw [HV.out]; rfl, HB7.out⟩
set_option maxHeartbeats 4000000 in
theorem rn_short_f_E (s : ByteArray) (n : Nat) (w : World) (hs : s.size ≤ 1000000) (hn : n ≤ s.size) (hb : begNI s.data.toList n = true) (h1 : hasPrefix (s.data.toList.drop n) [60, 33, 45, 45] = false) (h33 : hasPrefix (s.data.toList.drop n) [60, 33] = true) (h9 : ¬ 9 ≤ (s.data.toList.drop n).length) (hD : hasPrefix (s.data.toList.drop n) [60, 47, 62] = false) (h63 : hasPrefix (s.data.toList.drop n) [60, 63] = false) :
    Calls Tryz.prog 19 #[.string s, .int .i64 n, .bool false] w fun e w' => e = .returned (noteV s.data.toList n false) ∧ Below w.heap.size w w' := by
  have HB := fun W => rnbegins_any s n W hs (by omega)
  rw [show (decide (0 ≤ (n : Int)) && Note.begB (s.data.toList.drop ((n : Int)).toNat)) = true from hb] at HB
  have HB := hid HB
  have hsl := size_list s
  have HSL := hid hsl
  have hBB := hb
  rw [begNI_nat] at hBB
  have h2 := Note.beg_two hBB
  rw [List.length_drop, hsl] at h2
  have A1 := fun W => at_nat s ⟨#[60, 33, 45, 45]⟩ n [60, 33, 45, 45] W rfl (by decide) hs (by decide) (by omega)
  rw [h1] at A1
  have A1 := hid A1
  have A3 := fun W => at_nat s ⟨#[60, 33]⟩ n [60, 33] W rfl (by decide) hs (by decide) (by omega)
  rw [h33] at A3
  have A3 := hid A3
  have hd := not_doc (.inr (.inl h9))
  have d9 : decide ((9 : Int) ≤ (s.size : Int) - (n : Int)) = false := decide_eq_false (by rw [List.length_drop, hsl] at h9; omega)
  have AD := fun W => at_nat s ⟨#[60, 47, 62]⟩ n [60, 47, 62] W rfl (by decide) hs (by decide) (by omega)
  rw [hD] at AD
  have AD := hid AD
  have hn1 : n + 1 < s.size := by omega
  have hak := ask_iff hBB hn1
  obtain ⟨c, hc⟩ : ∃ c, s[n + 1]'hn1 = c := ⟨_, rfl⟩
  rw [hc, h63] at hak
  have v1 : ((n : Int) + 1).toNat = n + 1 := by omega
  have v2 : (0 : Int) ≤ (n : Int) + 1 := by omega
  have v3 : (n : Int) + 1 < (s.size : Int) := by omega
  have HAK := hid hak
  have hpo : Note.poorAt (s.data.toList.drop n) = 2 := by unfold Note.poorAt; rw [h63]; rfl
  have U := fun W => up_any s ⟨#[62]⟩ (n + 2) [62] W rfl (by decide) hs (by decide) (by omega)
  have hff : Note.first (s.data.toList.drop n) false = (4, (Note.upTo (s.data.toList.drop (n + 2)) [62]).1, 2 + (Note.upTo (s.data.toList.drop (n + 2)) [62]).2) := by
    unfold Note.first
    rw [if_neg (by rw [h1]; decide), if_neg (by rw [hd]; decide), if_neg (by rw [Bool.and_false]; decide), if_neg (by rw [hD]; decide), hpo, List.drop_drop]
  have hV := noteV_yes hb hff
  generalize Note.upTo (s.data.toList.drop (n + 2)) [62] = R at *
  obtain ⟨Z, hZ⟩ : ∃ Z, bs R.1 = Z := ⟨_, rfl⟩
  rw [hZ] at U hV
  obtain ⟨m, hm⟩ : ∃ m : Nat, R.2 = m := ⟨_, rfl⟩
  rw [hm] at U hV
  rw [show ((n + 2 : Nat) : Int) = (n : Int) + 2 by omega] at U
  rw [show (n : Int) + ((2 + m : Nat) : Int) = (n : Int) + 2 + (m : Int) by omega] at hV
  have U := hid U
  have HV := hid hV
  clear h1 hff hV hBB hsl hb h33 hd h9 hD hZ hm h63 hpo 
  go_enter Tryz.func19, Tryz.ntmps19
  go_wp2_with fail
  refine (HB.out _).mono ?_
  rintro e w1 ⟨rfl, rfl⟩
  have TW := hid (two_new w)
  go_wp2_with fail
  generalize hWW : ((w.alloc (.cells #[.int .u8 0, .string ⟨#[]⟩, .slice none 0 0, .bool false, .string ⟨#[]⟩] 24)).alloc (.cells #[.int .u8 4, .string ⟨#[]⟩, .slice none 0 0, .bool false, .string ⟨#[]⟩] 24)) = W1 at TW ⊢
  clear hWW
  refine (A1.out _).mono ?_
  rintro e w2 ⟨rfl, rfl⟩
  go_wp2_with fail
  refine (A3.out _).mono ?_
  rintro e w2 ⟨rfl, rfl⟩
  go_wp2_with fail
  refine (AD.out _).mono ?_
  rintro e w2 ⟨rfl, rfl⟩
  go_wp2_with fail
  refine (U.out _).mono ?_
  rintro e w4 ⟨rfl, rfl⟩
  have TX := TW.out.text Z
  have g4 := TW.out.tok.free 4
  have u4 := TW.out.tok.cell 4
  simp only [List.getElem?_toArray, List.getElem?_cons_zero, List.getElem?_cons_succ] at u4
  have r0 := TX.res.cell 0
  have r1 := TX.res.cell 1
  have r2 := TX.res.cell 2
  have r3 := TX.res.cell 3
  have r4 := TX.res.cell 4
  have f0 := TX.res.free 0
  have f1 := TX.res.free 1
  have f2 := TX.res.free 2
  have f3 := TX.res.free 3
  have f4 := TX.res.free 4
  have t0 := TX.tok.cell 0
  have t1 := TX.tok.cell 1
  have t2 := TX.tok.cell 2
  have t3 := TX.tok.cell 3
  have t4 := TX.tok.cell 4
  simp only [List.getElem?_toArray, List.getElem?_cons_zero, List.getElem?_cons_succ] at r0 r1 r2 r3 r4 t0 t1 t2 t3 t4
  obtain ⟨W7, hW7, z0, z1, z2, z3, z4, hb7, _⟩ := tok_store TX.res TX.bel (Nat.le_refl _) (.int .u8 4) (.string ⟨#[]⟩) (.slice none 0 0) (.bool false) (.string Z)
  have HW7 := hid hW7
  have HB7 := hid hb7
  clear hW7 hb7 TX
  go_wp2
  rw [HW7.out]
  refine bodyPost_ret (v := .tuple #[.agg #[.int .u8 4, .string ⟨#[]⟩, .slice none 0 0, .bool false, .string Z], .int .i64 ((n : Int) + 2 + (m : Int))]) (by simp [results, Tryz.results19, go_sem, z0, z1, z2, z3, z4]) rfl ?_
  exact ⟨by rw [HV.out]; rfl, HB7.out⟩
set_option maxHeartbeats 4000000 in
theorem rn_short_t_E (s : ByteArray) (n : Nat) (w : World) (hs : s.size ≤ 1000000) (hn : n ≤ s.size) (hb : begNI s.data.toList n = true) (h1 : hasPrefix (s.data.toList.drop n) [60, 33, 45, 45] = false) (h33 : hasPrefix (s.data.toList.drop n) [60, 33] = true) (h9 : ¬ 9 ≤ (s.data.toList.drop n).length) (hC : hasPrefix (s.data.toList.drop n) [60, 33, 91, 67, 68, 65, 84, 65, 91] = false) (hD : hasPrefix (s.data.toList.drop n) [60, 47, 62] = false) (h63 : hasPrefix (s.data.toList.drop n) [60, 63] = false) :
    Calls Tryz.prog 19 #[.string s, .int .i64 n, .bool true] w fun e w' => e = .returned (noteV s.data.toList n true) ∧ Below w.heap.size w w' := by
  have HB := fun W => rnbegins_any s n W hs (by omega)
  rw [show (decide (0 ≤ (n : Int)) && Note.begB (s.data.toList.drop ((n : Int)).toNat)) = true from hb] at HB
  have HB := hid HB
  have hsl := size_list s
  have HSL := hid hsl
  have hBB := hb
  rw [begNI_nat] at hBB
  have h2 := Note.beg_two hBB
  rw [List.length_drop, hsl] at h2
  have A1 := fun W => at_nat s ⟨#[60, 33, 45, 45]⟩ n [60, 33, 45, 45] W rfl (by decide) hs (by decide) (by omega)
  rw [h1] at A1
  have A1 := hid A1
  have A3 := fun W => at_nat s ⟨#[60, 33]⟩ n [60, 33] W rfl (by decide) hs (by decide) (by omega)
  rw [h33] at A3
  have A3 := hid A3
  have hd := not_doc (.inr (.inl h9))
  have d9 : decide ((9 : Int) ≤ (s.size : Int) - (n : Int)) = false := decide_eq_false (by rw [List.length_drop, hsl] at h9; omega)
  have AC := fun W => at_nat s ⟨#[60, 33, 91, 67, 68, 65, 84, 65, 91]⟩ n [60, 33, 91, 67, 68, 65, 84, 65, 91] W rfl (by decide) hs (by decide) (by omega)
  rw [hC] at AC
  have AC := hid AC
  have AD := fun W => at_nat s ⟨#[60, 47, 62]⟩ n [60, 47, 62] W rfl (by decide) hs (by decide) (by omega)
  rw [hD] at AD
  have AD := hid AD
  have hn1 : n + 1 < s.size := by omega
  have hak := ask_iff hBB hn1
  obtain ⟨c, hc⟩ : ∃ c, s[n + 1]'hn1 = c := ⟨_, rfl⟩
  rw [hc, h63] at hak
  have v1 : ((n : Int) + 1).toNat = n + 1 := by omega
  have v2 : (0 : Int) ≤ (n : Int) + 1 := by omega
  have v3 : (n : Int) + 1 < (s.size : Int) := by omega
  have HAK := hid hak
  have hpo : Note.poorAt (s.data.toList.drop n) = 2 := by unfold Note.poorAt; rw [h63]; rfl
  have U := fun W => up_any s ⟨#[62]⟩ (n + 2) [62] W rfl (by decide) hs (by decide) (by omega)
  have hff : Note.first (s.data.toList.drop n) true = (4, (Note.upTo (s.data.toList.drop (n + 2)) [62]).1, 2 + (Note.upTo (s.data.toList.drop (n + 2)) [62]).2) := by
    unfold Note.first
    rw [if_neg (by rw [h1]; decide), if_neg (by rw [hd]; decide), if_neg (by rw [hC]; decide), if_neg (by rw [hD]; decide), hpo, List.drop_drop]
  have hV := noteV_yes hb hff
  generalize Note.upTo (s.data.toList.drop (n + 2)) [62] = R at *
  obtain ⟨Z, hZ⟩ : ∃ Z, bs R.1 = Z := ⟨_, rfl⟩
  rw [hZ] at U hV
  obtain ⟨m, hm⟩ : ∃ m : Nat, R.2 = m := ⟨_, rfl⟩
  rw [hm] at U hV
  rw [show ((n + 2 : Nat) : Int) = (n : Int) + 2 by omega] at U
  rw [show (n : Int) + ((2 + m : Nat) : Int) = (n : Int) + 2 + (m : Int) by omega] at hV
  have U := hid U
  have HV := hid hV
  clear h1 hff hV hBB hsl hb h33 hd h9 hC hD hZ hm h63 hpo 
  go_enter Tryz.func19, Tryz.ntmps19
  go_wp2_with fail
  refine (HB.out _).mono ?_
  rintro e w1 ⟨rfl, rfl⟩
  have TW := hid (two_new w)
  go_wp2_with fail
  generalize hWW : ((w.alloc (.cells #[.int .u8 0, .string ⟨#[]⟩, .slice none 0 0, .bool false, .string ⟨#[]⟩] 24)).alloc (.cells #[.int .u8 4, .string ⟨#[]⟩, .slice none 0 0, .bool false, .string ⟨#[]⟩] 24)) = W1 at TW ⊢
  clear hWW
  refine (A1.out _).mono ?_
  rintro e w2 ⟨rfl, rfl⟩
  go_wp2_with fail
  refine (A3.out _).mono ?_
  rintro e w2 ⟨rfl, rfl⟩
  go_wp2_with fail
  refine (AC.out _).mono ?_
  rintro e w2 ⟨rfl, rfl⟩
  go_wp2_with fail
  refine (AD.out _).mono ?_
  rintro e w2 ⟨rfl, rfl⟩
  go_wp2_with fail
  refine (U.out _).mono ?_
  rintro e w4 ⟨rfl, rfl⟩
  have TX := TW.out.text Z
  have g4 := TW.out.tok.free 4
  have u4 := TW.out.tok.cell 4
  simp only [List.getElem?_toArray, List.getElem?_cons_zero, List.getElem?_cons_succ] at u4
  have r0 := TX.res.cell 0
  have r1 := TX.res.cell 1
  have r2 := TX.res.cell 2
  have r3 := TX.res.cell 3
  have r4 := TX.res.cell 4
  have f0 := TX.res.free 0
  have f1 := TX.res.free 1
  have f2 := TX.res.free 2
  have f3 := TX.res.free 3
  have f4 := TX.res.free 4
  have t0 := TX.tok.cell 0
  have t1 := TX.tok.cell 1
  have t2 := TX.tok.cell 2
  have t3 := TX.tok.cell 3
  have t4 := TX.tok.cell 4
  simp only [List.getElem?_toArray, List.getElem?_cons_zero, List.getElem?_cons_succ] at r0 r1 r2 r3 r4 t0 t1 t2 t3 t4
  obtain ⟨W7, hW7, z0, z1, z2, z3, z4, hb7, _⟩ := tok_store TX.res TX.bel (Nat.le_refl _) (.int .u8 4) (.string ⟨#[]⟩) (.slice none 0 0) (.bool false) (.string Z)
  have HW7 := hid hW7
  have HB7 := hid hb7
  clear hW7 hb7 TX
  go_wp2
  rw [HW7.out]
  refine bodyPost_ret (v := .tuple #[.agg #[.int .u8 4, .string ⟨#[]⟩, .slice none 0 0, .bool false, .string Z], .int .i64 ((n : Int) + 2 + (m : Int))]) (by simp [results, Tryz.results19, go_sem, z0, z1, z2, z3, z4]) rfl ?_
  exact ⟨by rw [HV.out]; rfl, HB7.out⟩
set_option maxHeartbeats 4000000 in
theorem rn_long_f_E (s : ByteArray) (n : Nat) (w : World) (hs : s.size ≤ 1000000) (hn : n ≤ s.size) (hb : begNI s.data.toList n = true) (h1 : hasPrefix (s.data.toList.drop n) [60, 33, 45, 45] = false) (h33 : hasPrefix (s.data.toList.drop n) [60, 33] = true) (h9 : 9 ≤ (s.data.toList.drop n).length) (hlow : decide (lowL (((s.data.toList.drop n).drop 2).take 7) = [100, 111, 99, 116, 121, 112, 101]) = false) (hD : hasPrefix (s.data.toList.drop n) [60, 47, 62] = false) (h63 : hasPrefix (s.data.toList.drop n) [60, 63] = false) :
    Calls Tryz.prog 19 #[.string s, .int .i64 n, .bool false] w fun e w' => e = .returned (noteV s.data.toList n false) ∧ Below w.heap.size w w' := by
  have HB := fun W => rnbegins_any s n W hs (by omega)
  rw [show (decide (0 ≤ (n : Int)) && Note.begB (s.data.toList.drop ((n : Int)).toNat)) = true from hb] at HB
  have HB := hid HB
  have hsl := size_list s
  have HSL := hid hsl
  have hBB := hb
  rw [begNI_nat] at hBB
  have h2 := Note.beg_two hBB
  rw [List.length_drop, hsl] at h2
  have A1 := fun W => at_nat s ⟨#[60, 33, 45, 45]⟩ n [60, 33, 45, 45] W rfl (by decide) hs (by decide) (by omega)
  rw [h1] at A1
  have A1 := hid A1
  have A3 := fun W => at_nat s ⟨#[60, 33]⟩ n [60, 33] W rfl (by decide) hs (by decide) (by omega)
  rw [h33] at A3
  have A3 := hid A3
  have hd := not_doc (.inr (.inr hlow))
  have l9 : n + 9 ≤ s.size := by rw [List.length_drop, hsl] at h9; omega
  have d9 : decide ((9 : Int) ≤ (s.size : Int) - (n : Int)) = true := decide_eq_true (by omega)
  have u1 : ((n : Int) + 2).toNat = n + 2 := by omega
  have u2 : ((n : Int) + 9).toNat = n + 9 := by omega
  have u3 : (0 : Int) ≤ (n : Int) + 2 := by omega
  have u4 : (n : Int) + 2 ≤ (n : Int) + 9 := by omega
  have u5 : (n : Int) + 9 ≤ (s.size : Int) := by omega
  have u6 : (0 : Int) ≤ (n : Int) + 9 := by omega
  have L := fun W => rlower_any (s.extract (n + 2) (n + 9)) W (by rw [← size_list, mid_low]; simp; omega)
  rw [mid_low] at L
  obtain ⟨X, hX⟩ : ∃ X : ByteArray, (⟨(lowL (((s.data.toList.drop n).drop 2).take 7)).toArray⟩ : ByteArray) = X := ⟨_, rfl⟩
  rw [hX] at L
  have L := hid L
  have hx := low_eq (t := [100, 111, 99, 116, 121, 112, 101]) hX
  rw [hlow] at hx
  have AD := fun W => at_nat s ⟨#[60, 47, 62]⟩ n [60, 47, 62] W rfl (by decide) hs (by decide) (by omega)
  rw [hD] at AD
  have AD := hid AD
  have hn1 : n + 1 < s.size := by omega
  have hak := ask_iff hBB hn1
  obtain ⟨c, hc⟩ : ∃ c, s[n + 1]'hn1 = c := ⟨_, rfl⟩
  rw [hc, h63] at hak
  have v1 : ((n : Int) + 1).toNat = n + 1 := by omega
  have v2 : (0 : Int) ≤ (n : Int) + 1 := by omega
  have v3 : (n : Int) + 1 < (s.size : Int) := by omega
  have HAK := hid hak
  have hpo : Note.poorAt (s.data.toList.drop n) = 2 := by unfold Note.poorAt; rw [h63]; rfl
  have U := fun W => up_any s ⟨#[62]⟩ (n + 2) [62] W rfl (by decide) hs (by decide) (by omega)
  have hff : Note.first (s.data.toList.drop n) false = (4, (Note.upTo (s.data.toList.drop (n + 2)) [62]).1, 2 + (Note.upTo (s.data.toList.drop (n + 2)) [62]).2) := by
    unfold Note.first
    rw [if_neg (by rw [h1]; decide), if_neg (by rw [hd]; decide), if_neg (by rw [Bool.and_false]; decide), if_neg (by rw [hD]; decide), hpo, List.drop_drop]
  have hV := noteV_yes hb hff
  generalize Note.upTo (s.data.toList.drop (n + 2)) [62] = R at *
  obtain ⟨Z, hZ⟩ : ∃ Z, bs R.1 = Z := ⟨_, rfl⟩
  rw [hZ] at U hV
  obtain ⟨m, hm⟩ : ∃ m : Nat, R.2 = m := ⟨_, rfl⟩
  rw [hm] at U hV
  rw [show ((n + 2 : Nat) : Int) = (n : Int) + 2 by omega] at U
  rw [show (n : Int) + ((2 + m : Nat) : Int) = (n : Int) + 2 + (m : Int) by omega] at hV
  have U := hid U
  have HV := hid hV
  clear h1 hff hV hBB hsl hb h33 hd h9 hlow hX hD hZ hm h63 hpo 
  go_enter Tryz.func19, Tryz.ntmps19
  go_wp2_with fail
  refine (HB.out _).mono ?_
  rintro e w1 ⟨rfl, rfl⟩
  have TW := hid (two_new w)
  go_wp2_with fail
  generalize hWW : ((w.alloc (.cells #[.int .u8 0, .string ⟨#[]⟩, .slice none 0 0, .bool false, .string ⟨#[]⟩] 24)).alloc (.cells #[.int .u8 4, .string ⟨#[]⟩, .slice none 0 0, .bool false, .string ⟨#[]⟩] 24)) = W1 at TW ⊢
  clear hWW
  refine (A1.out _).mono ?_
  rintro e w2 ⟨rfl, rfl⟩
  go_wp2_with fail
  refine (A3.out _).mono ?_
  rintro e w2 ⟨rfl, rfl⟩
  go_wp2_with fail
  refine (L.out _).mono ?_
  rintro e w3 ⟨rfl, b3⟩
  have TW := hid (TW.out.below' b3)
  clear b3
  go_wp2_with fail
  refine (AD.out _).mono ?_
  rintro e w2 ⟨rfl, rfl⟩
  go_wp2_with fail
  refine (U.out _).mono ?_
  rintro e w4 ⟨rfl, rfl⟩
  have TX := TW.out.text Z
  have g4 := TW.out.tok.free 4
  have u4 := TW.out.tok.cell 4
  simp only [List.getElem?_toArray, List.getElem?_cons_zero, List.getElem?_cons_succ] at u4
  have r0 := TX.res.cell 0
  have r1 := TX.res.cell 1
  have r2 := TX.res.cell 2
  have r3 := TX.res.cell 3
  have r4 := TX.res.cell 4
  have f0 := TX.res.free 0
  have f1 := TX.res.free 1
  have f2 := TX.res.free 2
  have f3 := TX.res.free 3
  have f4 := TX.res.free 4
  have t0 := TX.tok.cell 0
  have t1 := TX.tok.cell 1
  have t2 := TX.tok.cell 2
  have t3 := TX.tok.cell 3
  have t4 := TX.tok.cell 4
  simp only [List.getElem?_toArray, List.getElem?_cons_zero, List.getElem?_cons_succ] at r0 r1 r2 r3 r4 t0 t1 t2 t3 t4
  obtain ⟨W7, hW7, z0, z1, z2, z3, z4, hb7, _⟩ := tok_store TX.res TX.bel (Nat.le_refl _) (.int .u8 4) (.string ⟨#[]⟩) (.slice none 0 0) (.bool false) (.string Z)
  have HW7 := hid hW7
  have HB7 := hid hb7
  clear hW7 hb7 TX
  go_wp2
  rw [HW7.out]
  refine bodyPost_ret (v := .tuple #[.agg #[.int .u8 4, .string ⟨#[]⟩, .slice none 0 0, .bool false, .string Z], .int .i64 ((n : Int) + 2 + (m : Int))]) (by simp [results, Tryz.results19, go_sem, z0, z1, z2, z3, z4]) rfl ?_
  exact ⟨by rw [HV.out]; rfl, HB7.out⟩
set_option maxHeartbeats 4000000 in
theorem rn_long_t_E (s : ByteArray) (n : Nat) (w : World) (hs : s.size ≤ 1000000) (hn : n ≤ s.size) (hb : begNI s.data.toList n = true) (h1 : hasPrefix (s.data.toList.drop n) [60, 33, 45, 45] = false) (h33 : hasPrefix (s.data.toList.drop n) [60, 33] = true) (h9 : 9 ≤ (s.data.toList.drop n).length) (hlow : decide (lowL (((s.data.toList.drop n).drop 2).take 7) = [100, 111, 99, 116, 121, 112, 101]) = false) (hC : hasPrefix (s.data.toList.drop n) [60, 33, 91, 67, 68, 65, 84, 65, 91] = false) (hD : hasPrefix (s.data.toList.drop n) [60, 47, 62] = false) (h63 : hasPrefix (s.data.toList.drop n) [60, 63] = false) :
    Calls Tryz.prog 19 #[.string s, .int .i64 n, .bool true] w fun e w' => e = .returned (noteV s.data.toList n true) ∧ Below w.heap.size w w' := by
  have HB := fun W => rnbegins_any s n W hs (by omega)
  rw [show (decide (0 ≤ (n : Int)) && Note.begB (s.data.toList.drop ((n : Int)).toNat)) = true from hb] at HB
  have HB := hid HB
  have hsl := size_list s
  have HSL := hid hsl
  have hBB := hb
  rw [begNI_nat] at hBB
  have h2 := Note.beg_two hBB
  rw [List.length_drop, hsl] at h2
  have A1 := fun W => at_nat s ⟨#[60, 33, 45, 45]⟩ n [60, 33, 45, 45] W rfl (by decide) hs (by decide) (by omega)
  rw [h1] at A1
  have A1 := hid A1
  have A3 := fun W => at_nat s ⟨#[60, 33]⟩ n [60, 33] W rfl (by decide) hs (by decide) (by omega)
  rw [h33] at A3
  have A3 := hid A3
  have hd := not_doc (.inr (.inr hlow))
  have l9 : n + 9 ≤ s.size := by rw [List.length_drop, hsl] at h9; omega
  have d9 : decide ((9 : Int) ≤ (s.size : Int) - (n : Int)) = true := decide_eq_true (by omega)
  have u1 : ((n : Int) + 2).toNat = n + 2 := by omega
  have u2 : ((n : Int) + 9).toNat = n + 9 := by omega
  have u3 : (0 : Int) ≤ (n : Int) + 2 := by omega
  have u4 : (n : Int) + 2 ≤ (n : Int) + 9 := by omega
  have u5 : (n : Int) + 9 ≤ (s.size : Int) := by omega
  have u6 : (0 : Int) ≤ (n : Int) + 9 := by omega
  have L := fun W => rlower_any (s.extract (n + 2) (n + 9)) W (by rw [← size_list, mid_low]; simp; omega)
  rw [mid_low] at L
  obtain ⟨X, hX⟩ : ∃ X : ByteArray, (⟨(lowL (((s.data.toList.drop n).drop 2).take 7)).toArray⟩ : ByteArray) = X := ⟨_, rfl⟩
  rw [hX] at L
  have L := hid L
  have hx := low_eq (t := [100, 111, 99, 116, 121, 112, 101]) hX
  rw [hlow] at hx
  have AC := fun W => at_nat s ⟨#[60, 33, 91, 67, 68, 65, 84, 65, 91]⟩ n [60, 33, 91, 67, 68, 65, 84, 65, 91] W rfl (by decide) hs (by decide) (by omega)
  rw [hC] at AC
  have AC := hid AC
  have AD := fun W => at_nat s ⟨#[60, 47, 62]⟩ n [60, 47, 62] W rfl (by decide) hs (by decide) (by omega)
  rw [hD] at AD
  have AD := hid AD
  have hn1 : n + 1 < s.size := by omega
  have hak := ask_iff hBB hn1
  obtain ⟨c, hc⟩ : ∃ c, s[n + 1]'hn1 = c := ⟨_, rfl⟩
  rw [hc, h63] at hak
  have v1 : ((n : Int) + 1).toNat = n + 1 := by omega
  have v2 : (0 : Int) ≤ (n : Int) + 1 := by omega
  have v3 : (n : Int) + 1 < (s.size : Int) := by omega
  have HAK := hid hak
  have hpo : Note.poorAt (s.data.toList.drop n) = 2 := by unfold Note.poorAt; rw [h63]; rfl
  have U := fun W => up_any s ⟨#[62]⟩ (n + 2) [62] W rfl (by decide) hs (by decide) (by omega)
  have hff : Note.first (s.data.toList.drop n) true = (4, (Note.upTo (s.data.toList.drop (n + 2)) [62]).1, 2 + (Note.upTo (s.data.toList.drop (n + 2)) [62]).2) := by
    unfold Note.first
    rw [if_neg (by rw [h1]; decide), if_neg (by rw [hd]; decide), if_neg (by rw [hC]; decide), if_neg (by rw [hD]; decide), hpo, List.drop_drop]
  have hV := noteV_yes hb hff
  generalize Note.upTo (s.data.toList.drop (n + 2)) [62] = R at *
  obtain ⟨Z, hZ⟩ : ∃ Z, bs R.1 = Z := ⟨_, rfl⟩
  rw [hZ] at U hV
  obtain ⟨m, hm⟩ : ∃ m : Nat, R.2 = m := ⟨_, rfl⟩
  rw [hm] at U hV
  rw [show ((n + 2 : Nat) : Int) = (n : Int) + 2 by omega] at U
  rw [show (n : Int) + ((2 + m : Nat) : Int) = (n : Int) + 2 + (m : Int) by omega] at hV
  have U := hid U
  have HV := hid hV
  clear h1 hff hV hBB hsl hb h33 hd h9 hlow hX hC hD hZ hm h63 hpo 
  go_enter Tryz.func19, Tryz.ntmps19
  go_wp2_with fail
  refine (HB.out _).mono ?_
  rintro e w1 ⟨rfl, rfl⟩
  have TW := hid (two_new w)
  go_wp2_with fail
  generalize hWW : ((w.alloc (.cells #[.int .u8 0, .string ⟨#[]⟩, .slice none 0 0, .bool false, .string ⟨#[]⟩] 24)).alloc (.cells #[.int .u8 4, .string ⟨#[]⟩, .slice none 0 0, .bool false, .string ⟨#[]⟩] 24)) = W1 at TW ⊢
  clear hWW
  refine (A1.out _).mono ?_
  rintro e w2 ⟨rfl, rfl⟩
  go_wp2_with fail
  refine (A3.out _).mono ?_
  rintro e w2 ⟨rfl, rfl⟩
  go_wp2_with fail
  refine (L.out _).mono ?_
  rintro e w3 ⟨rfl, b3⟩
  have TW := hid (TW.out.below' b3)
  clear b3
  go_wp2_with fail
  refine (AC.out _).mono ?_
  rintro e w2 ⟨rfl, rfl⟩
  go_wp2_with fail
  refine (AD.out _).mono ?_
  rintro e w2 ⟨rfl, rfl⟩
  go_wp2_with fail
  refine (U.out _).mono ?_
  rintro e w4 ⟨rfl, rfl⟩
  have TX := TW.out.text Z
  have g4 := TW.out.tok.free 4
  have u4 := TW.out.tok.cell 4
  simp only [List.getElem?_toArray, List.getElem?_cons_zero, List.getElem?_cons_succ] at u4
  have r0 := TX.res.cell 0
  have r1 := TX.res.cell 1
  have r2 := TX.res.cell 2
  have r3 := TX.res.cell 3
  have r4 := TX.res.cell 4
  have f0 := TX.res.free 0
  have f1 := TX.res.free 1
  have f2 := TX.res.free 2
  have f3 := TX.res.free 3
  have f4 := TX.res.free 4
  have t0 := TX.tok.cell 0
  have t1 := TX.tok.cell 1
  have t2 := TX.tok.cell 2
  have t3 := TX.tok.cell 3
  have t4 := TX.tok.cell 4
  simp only [List.getElem?_toArray, List.getElem?_cons_zero, List.getElem?_cons_succ] at r0 r1 r2 r3 r4 t0 t1 t2 t3 t4
  obtain ⟨W7, hW7, z0, z1, z2, z3, z4, hb7, _⟩ := tok_store TX.res TX.bel (Nat.le_refl _) (.int .u8 4) (.string ⟨#[]⟩) (.slice none 0 0) (.bool false) (.string Z)
  have HW7 := hid hW7
  have HB7 := hid hb7
  clear hW7 hb7 TX
  go_wp2
  rw [HW7.out]
  refine bodyPost_ret (v := .tuple #[.agg #[.int .u8 4, .string ⟨#[]⟩, .slice none 0 0, .bool false, .string Z], .int .i64 ((n : Int) + 2 + (m : Int))]) (by simp [results, Tryz.results19, go_sem, z0, z1, z2, z3, z4]) rfl ?_
  exact ⟨by rw [HV.out]; rfl, HB7.out⟩
theorem rn_no (s : ByteArray) (i : Int) (cd : Bool) (w : World) (hs : s.size ≤ 1000000) (hi : -9223372036854775808 ≤ i ∧ i ≤ 9223372036854775807) (hb : begNI s.data.toList i = false) :
    Calls Tryz.prog 19 #[.string s, .int .i64 i, .bool cd] w fun e w' => e = .returned (noteV s.data.toList i cd) ∧ Below w.heap.size w w' := by
  have HB := fun W => rnbegins_any s i W hs hi
  rw [show (decide (0 ≤ i) && Note.begB (s.data.toList.drop i.toNat)) = false from hb] at HB
  have HB := hid HB
  unfold noteV
  rw [if_neg (by rw [hb]; decide)]
  have h0 := hid (BlkW.new w #[.int .u8 0, .string ⟨#[]⟩, .slice none 0 0, .bool false, .string ⟨#[]⟩] 24)
  have b0 := hid ((Below.refl w.heap.size w).alloc (Nat.le_refl _) (.cells #[.int .u8 0, .string ⟨#[]⟩, .slice none 0 0, .bool false, .string ⟨#[]⟩] 24))
  obtain ⟨W1, hW1⟩ : ∃ W1, w.alloc (.cells #[.int .u8 0, .string ⟨#[]⟩, .slice none 0 0, .bool false, .string ⟨#[]⟩] 24) = W1 := ⟨_, rfl⟩
  rw [hW1] at h0 b0
  have HW1 := hid hW1
  obtain ⟨W7, hW7, z0, z1, z2, z3, z4, hb7, _⟩ := tok_store h0.out b0.out (Nat.le_refl _) (.int .u8 0) (.string ⟨#[]⟩) (.slice none 0 0) (.bool false) (.string ⟨#[]⟩)
  have r0 := h0.out.cell 0
  have r1 := h0.out.cell 1
  have r2 := h0.out.cell 2
  have r3 := h0.out.cell 3
  have r4 := h0.out.cell 4
  have f0 := h0.out.free 0
  have f1 := h0.out.free 1
  have f2 := h0.out.free 2
  have f3 := h0.out.free 3
  have f4 := h0.out.free 4
  simp only [List.getElem?_toArray, List.getElem?_cons_zero, List.getElem?_cons_succ] at r0 r1 r2 r3 r4
  have HW7 := hid hW7
  have HB7 := hid hb7
  clear hW7 hb7 hW1 hb hi
  go_enter Tryz.func19, Tryz.ntmps19
  go_wp2_with fail
  rw [HW1.out]
  refine (HB.out _).mono ?_
  rintro e w1 ⟨rfl, rfl⟩
  go_wp2
  rw [HW7.out]
  refine bodyPost_ret (v := .tuple #[.agg #[.int .u8 0, .string ⟨#[]⟩, .slice none 0 0, .bool false, .string ⟨#[]⟩], .int .i64 i]) (by simp [results, Tryz.results19, go_sem, z0, z1, z2, z3, z4]) rfl ?_
  exact ⟨rfl, HB7.out⟩
theorem rn_yes (s : ByteArray) (n : Nat) (cd : Bool) (w : World) (hs : s.size ≤ 1000000) (hn : n ≤ s.size) (hb : begNI s.data.toList n = true) :
    Calls Tryz.prog 19 #[.string s, .int .i64 n, .bool cd] w fun e w' => e = .returned (noteV s.data.toList n cd) ∧ Below w.heap.size w w' := by
  cases h1 : hasPrefix (s.data.toList.drop n) [60, 33, 45, 45] with
  | true => exact rn_a s n cd w hs hn hb h1
  | false =>
    cases hd : Note.doctypeB (s.data.toList.drop n) with
    | true => exact rn_b s n cd w hs hn hb h1 hd
    | false =>
      cases h33 : hasPrefix (s.data.toList.drop n) [60, 33] with
      | false =>
        have hC : hasPrefix (s.data.toList.drop n) [60, 33, 91, 67, 68, 65, 84, 65, 91] = false := by
          cases hc : hasPrefix (s.data.toList.drop n) [60, 33, 91, 67, 68, 65, 84, 65, 91] with
          | false => rfl
          | true =>
            obtain ⟨t, ht⟩ := List.isPrefixOf_iff_prefix.1 hc
            rw [← ht] at h33
            exact absurd (show true = false from h33) (by decide)
        cases hD : hasPrefix (s.data.toList.drop n) [60, 47, 62] with
        | true =>
          cases cd with
          | true => exact rn_no33_t_D s n w hs hn hb h1 h33 hC hD
          | false => exact rn_no33_f_D s n w hs hn hb h1 h33 hD
        | false =>
          cases h63 : hasPrefix (s.data.toList.drop n) [60, 63] with
          | true =>
            cases cd with
            | true => exact rn_no33_t_Q s n w hs hn hb h1 h33 hC hD h63
            | false => exact rn_no33_f_Q s n w hs hn hb h1 h33 hD h63
          | false =>
            cases cd with
            | true => exact rn_no33_t_E s n w hs hn hb h1 h33 hC hD h63
            | false => exact rn_no33_f_E s n w hs hn hb h1 h33 hD h63
      | true =>
        have hD : hasPrefix (s.data.toList.drop n) [60, 47, 62] = false := by
          obtain ⟨t, ht⟩ := List.isPrefixOf_iff_prefix.1 h33
          rw [← ht]; rfl
        have h63 : hasPrefix (s.data.toList.drop n) [60, 63] = false := by
          obtain ⟨t, ht⟩ := List.isPrefixOf_iff_prefix.1 h33
          rw [← ht]; rfl
        by_cases h9 : 9 ≤ (s.data.toList.drop n).length
        · have hlow : decide (lowL (((s.data.toList.drop n).drop 2).take 7) = [100, 111, 99, 116, 121, 112, 101]) = false := by
            rw [Note.doctype_iff, h33, decide_eq_true h9, Bool.true_and, Bool.true_and] at hd
            exact hd
          cases cd with
          | true =>
            cases hC : hasPrefix (s.data.toList.drop n) [60, 33, 91, 67, 68, 65, 84, 65, 91] with
            | true => exact rn_long_c_c s n w hs hn hb h1 h33 h9 hlow hC
            | false => exact rn_long_t_E s n w hs hn hb h1 h33 h9 hlow hC hD h63
          | false => exact rn_long_f_E s n w hs hn hb h1 h33 h9 hlow hD h63
        · have hC : hasPrefix (s.data.toList.drop n) [60, 33, 91, 67, 68, 65, 84, 65, 91] = false := by
            cases hc : hasPrefix (s.data.toList.drop n) [60, 33, 91, 67, 68, 65, 84, 65, 91] with
            | false => rfl
            | true =>
              have := (List.isPrefixOf_iff_prefix.1 hc).length_le
              exact absurd this h9
          cases cd with
          | true => exact rn_short_t_E s n w hs hn hb h1 h33 h9 hC hD h63
          | false => exact rn_short_f_E s n w hs hn hb h1 h33 h9 hD h63
theorem rnread_any (s : ByteArray) (i : Int) (cd : Bool) (w : World) (hs : s.size ≤ 1000000) (hi : -9223372036854775808 ≤ i ∧ i ≤ 9223372036854775807) :
    Calls Tryz.prog 19 #[.string s, .int .i64 i, .bool cd] w fun e w' => e = .returned (noteV s.data.toList i cd) ∧ Below w.heap.size w w' := by
  cases hb : begNI s.data.toList i with
  | false => exact rn_no s i cd w hs hi hb
  | true =>
    have hin : 0 ≤ i := by
      have h := hb
      unfold begNI at h
      simp only [Bool.and_eq_true, decide_eq_true_eq] at h
      exact h.1
    obtain ⟨n, rfl⟩ : ∃ n : Nat, i = n := ⟨i.toNat, by omega⟩
    have h2 := hb
    rw [begNI_nat] at h2
    have h3 := Note.beg_two h2
    rw [List.length_drop, size_list] at h3
    exact rn_yes s n cd w hs (by omega) hb
end Go.Proofs.YtgldgdopabmefaaGreatDoor
