/- Walks over the reference of layer 9: Next. -/
import Derived.Test.YtgldgdopabmefaaGreatDoorRefLexA
import Derived.Test.YtgldgdopabmefaaGreatDoorTagRd
import Derived.Test.YtgldgdopabmefaaGreatDoorRefRawT
import Derived.Test.YtgldgdopabmefaaGreatDoorRefEntP
import Derived.Deep.LoopGhost
namespace Go.Proofs.YtgldgdopabmefaaGreatDoor
open Go.RowKit Go.Lib
set_option maxRecDepth 100000
set_option linter.unusedVariables false

/-- What the reference's Next is known to tell at a place. -/
def RNextC (s name : ByteArray) (m : Nat) (cd : Bool) (i : Nat) : Prop := ∀ w, Calls Tryz.prog 6 #[.string s, .int .i64 i, .int .u8 m, .string name, .bool cd] w fun e w' => LexE (Lex.next s.data.toList (Raw.smallN name.data.toList) m cd i) s.size e w' ∧ Below w.heap.size w w'
set_option maxHeartbeats 4000000 in
theorem rl_neg (s name : ByteArray) (i : Int) (m : Nat) (cd : Bool) (w : World) (hi : i < 0) :
    Calls Tryz.prog 6 #[.string s, .int .i64 i, .int .u8 m, .string name, .bool cd] w fun e w' => LexE (Lex.last, s.size) s.size e w' ∧ Below w.heap.size w w' := by
  have d0 : decide (i < 0) = true := decide_eq_true hi
  go_enter Tryz.func6, Tryz.ntmps6
  go_wp2
  go_returns
  exact ⟨lexE_last rfl, ((Below.refl w.heap.size w).alloc (Nat.le_refl _) _).alloc (by simp) _⟩
set_option maxHeartbeats 4000000 in
theorem rl_far (s name : ByteArray) (i : Nat) (m : Nat) (cd : Bool) (w : World) (hi : s.size ≤ i) :
    Calls Tryz.prog 6 #[.string s, .int .i64 i, .int .u8 m, .string name, .bool cd] w fun e w' => LexE (Lex.last, s.size) s.size e w' ∧ Below w.heap.size w w' := by
  have d0 : decide ((i : Int) < 0) = false := decide_eq_false (by omega)
  have d1 : decide ((s.size : Int) ≤ (i : Int)) = true := decide_eq_true (by omega)
  have d1N : decide (s.size ≤ i) = true := decide_eq_true hi
  go_enter Tryz.func6, Tryz.ntmps6
  go_wp2
  go_returns
  exact ⟨lexE_last rfl, ((Below.refl w.heap.size w).alloc (Nat.le_refl _) _).alloc (by simp) _⟩
set_option maxHeartbeats 4000000 in
theorem rl_raw (s name : ByteArray) (i : Nat) (m : Nat) (cd : Bool) (w : World) (hs : s.size ≤ 300000) (hps : name.size ≤ 300000) (hm : m < 256) (hil : i < s.size) (h1 : 1 ≤ m) (h4 : m ≤ 4) (ht : Lex.rawT s.data.toList (Raw.smallN name.data.toList) m i ≠ []) :
    Calls Tryz.prog 6 #[.string s, .int .i64 i, .int .u8 m, .string name, .bool cd] w fun e w' => LexE (Lex.next s.data.toList (Raw.smallN name.data.toList) m cd i) s.size e w' ∧ Below w.heap.size w w' := by
  have hsl := size_list s
  have d0 : decide ((i : Int) < 0) = false := decide_eq_false (by omega)
  have d1 : decide ((s.size : Int) ≤ (i : Int)) = false := decide_eq_false (by omega)
  have d1N : decide (s.size ≤ i) = false := decide_eq_false (by omega)
  have g1 : decide ((1 : Int) ≤ (m : Int)) = true := decide_eq_true (by omega)
  have g1N : decide (1 ≤ m) = true := decide_eq_true h1
  have g2 : decide ((m : Int) ≤ 4) = true := decide_eq_true (by omega)
  have g2N : decide (m ≤ 4) = true := decide_eq_true h4
  have RT := fun W => rtext_any s name i m W (by omega) (by omega) (by omega)
  have hV := rawV_yes (l := s.data.toList) (small := Raw.smallN name.data.toList) (n := i) (mode := m) (by omega) h1 h4 rfl
  rw [show ((i : Int) + ((Raw.far (Raw.smallN name.data.toList) m (s.data.toList.drop i) : Nat) : Int)) = ((Lex.rawE s.data.toList (Raw.smallN name.data.toList) m i : Nat) : Int) by unfold Lex.rawE; omega] at hV
  rw [hV] at RT
  obtain ⟨X, hX⟩ : ∃ X, bs (Lex.rawT s.data.toList (Raw.smallN name.data.toList) m i) = X := ⟨_, rfl⟩
  have hX2 : bs (Raw.textOf m ((s.data.toList.drop i).take (Raw.far (Raw.smallN name.data.toList) m (s.data.toList.drop i)))) = X := hX
  rw [hX2] at RT
  have hn := Lex.next_raw (cd := cd) (by omega) (show Lex.rawM m = true by unfold Lex.rawM; rw [g1N, g2N]; rfl) ht
  obtain ⟨j, hj⟩ : ∃ j, Lex.rawE s.data.toList (Raw.smallN name.data.toList) m i = j := ⟨_, rfl⟩
  rw [hj] at hn RT
  have hXe : X.toList.isEmpty = false := by
    rw [← hX, ByteArray.toList_eq]
    show (Lex.rawT s.data.toList (Raw.smallN name.data.toList) m i).isEmpty = false
    cases hc : Lex.rawT s.data.toList (Raw.smallN name.data.toList) m i with
    | nil => exact absurd hc ht
    | cons a r => rfl
  have HN := hid hn
  have HX := hid hX
  have RT := hid RT
  clear hn hX hX2 hV hj ht hsl
  go_enter Tryz.func6, Tryz.ntmps6
  have TW := hid (two_new6 w)
  go_wp2_with fail
  generalize hWW : ((w.alloc (.cells #[.int .u8 0, .string ⟨#[]⟩, .slice none 0 0, .bool false, .string ⟨#[]⟩] 24)).alloc (.cells #[.int .u8 6, .string ⟨#[]⟩, .slice none 0 0, .bool false, .string ⟨#[]⟩] 24)) = W1 at TW ⊢
  clear hWW
  refine (RT.out _).mono ?_
  rintro e w2 ⟨rfl, b2⟩
  have TW := hid (TW.out.below' b2)
  clear b2
  have r0 := TW.out.res.cell 0
  have r1 := TW.out.res.cell 1
  have r2 := TW.out.res.cell 2
  have r3 := TW.out.res.cell 3
  have r4 := TW.out.res.cell 4
  have f0 := TW.out.res.free 0
  have f1 := TW.out.res.free 1
  have f2 := TW.out.res.free 2
  have f3 := TW.out.res.free 3
  have f4 := TW.out.res.free 4
  simp only [List.getElem?_toArray, List.getElem?_cons_zero, List.getElem?_cons_succ] at r0 r1 r2 r3 r4
  obtain ⟨W7, hW7, z0, z1, z2, z3, z4, hb7, hk7⟩ := tok_store TW.out.res TW.out.bel (Nat.le_refl _) (.int .u8 1) (.string ⟨#[]⟩) (.slice none 0 0) (.bool false) (.string X)
  have HW7 := hid hW7
  have HB7 := hid hb7
  clear hW7 hb7 hk7
  go_wp2
  rw [HW7.out]
  refine bodyPost_ret (v := .tuple #[.agg #[.int .u8 1, .string ⟨#[]⟩, .slice none 0 0, .bool false, .string X], .int .i64 (j)]) (by simp [results, Tryz.results6, go_sem, z0, z1, z2, z3, z4]) rfl ?_
  exact ⟨by rw [HN.out]; exact lexE_plain (by rw [HX.out]; rfl), HB7.out⟩
set_option maxHeartbeats 4000000 in
theorem rl_over (s name : ByteArray) (i : Nat) (m : Nat) (cd : Bool) (w : World) (hs : s.size ≤ 300000) (hps : name.size ≤ 300000) (hm : m < 256) (hil : i < s.size) (h1 : 1 ≤ m) (h4 : m ≤ 4) (ht : Lex.rawT s.data.toList (Raw.smallN name.data.toList) m i = []) (he : s.size ≤ Lex.rawE s.data.toList (Raw.smallN name.data.toList) m i) :
    Calls Tryz.prog 6 #[.string s, .int .i64 i, .int .u8 m, .string name, .bool cd] w fun e w' => LexE (Lex.next s.data.toList (Raw.smallN name.data.toList) m cd i) s.size e w' ∧ Below w.heap.size w w' := by
  have hsl := size_list s
  have d0 : decide ((i : Int) < 0) = false := decide_eq_false (by omega)
  have d1 : decide ((s.size : Int) ≤ (i : Int)) = false := decide_eq_false (by omega)
  have d1N : decide (s.size ≤ i) = false := decide_eq_false (by omega)
  have g1 : decide ((1 : Int) ≤ (m : Int)) = true := decide_eq_true (by omega)
  have g1N : decide (1 ≤ m) = true := decide_eq_true h1
  have g2 : decide ((m : Int) ≤ 4) = true := decide_eq_true (by omega)
  have g2N : decide (m ≤ 4) = true := decide_eq_true h4
  have RT := fun W => rtext_any s name i m W (by omega) (by omega) (by omega)
  have hV := rawV_yes (l := s.data.toList) (small := Raw.smallN name.data.toList) (n := i) (mode := m) (by omega) h1 h4 rfl
  rw [show ((i : Int) + ((Raw.far (Raw.smallN name.data.toList) m (s.data.toList.drop i) : Nat) : Int)) = ((Lex.rawE s.data.toList (Raw.smallN name.data.toList) m i : Nat) : Int) by unfold Lex.rawE; omega] at hV
  rw [hV] at RT
  obtain ⟨X, hX⟩ : ∃ X, bs (Lex.rawT s.data.toList (Raw.smallN name.data.toList) m i) = X := ⟨_, rfl⟩
  have hX2 : bs (Raw.textOf m ((s.data.toList.drop i).take (Raw.far (Raw.smallN name.data.toList) m (s.data.toList.drop i)))) = X := hX
  rw [hX2] at RT
  have hn := Lex.next_over (cd := cd) (by omega) (show Lex.rawM m = true by unfold Lex.rawM; rw [g1N, g2N]; rfl) ht (by omega)
  have hle := (Lex.rawE_le (small := Raw.smallN name.data.toList) (mode := m) (show i ≤ s.data.toList.length by omega)).2
  rw [show Lex.rawE s.data.toList (Raw.smallN name.data.toList) m i = s.size by omega] at hn RT
  have hXe : X.toList.isEmpty = true := by
    rw [← hX, ByteArray.toList_eq, ht]
    rfl
  have e7 : ((s.size : Int) == (s.size : Int)) = true := by simp
  have HN := hid hn
  have RT := hid RT
  clear hn hX hX2 hV ht he hle hsl
  go_enter Tryz.func6, Tryz.ntmps6
  have TW := hid (two_new6 w)
  go_wp2_with fail
  generalize hWW : ((w.alloc (.cells #[.int .u8 0, .string ⟨#[]⟩, .slice none 0 0, .bool false, .string ⟨#[]⟩] 24)).alloc (.cells #[.int .u8 6, .string ⟨#[]⟩, .slice none 0 0, .bool false, .string ⟨#[]⟩] 24)) = W1 at TW ⊢
  clear hWW
  refine (RT.out _).mono ?_
  rintro e w2 ⟨rfl, b2⟩
  have TW := hid (TW.out.below' b2)
  clear b2
  have r0 := TW.out.res.cell 0
  have r1 := TW.out.res.cell 1
  have r2 := TW.out.res.cell 2
  have r3 := TW.out.res.cell 3
  have r4 := TW.out.res.cell 4
  have f0 := TW.out.res.free 0
  have f1 := TW.out.res.free 1
  have f2 := TW.out.res.free 2
  have f3 := TW.out.res.free 3
  have f4 := TW.out.res.free 4
  have t0 := TW.out.tok.cell 0
  have t1 := TW.out.tok.cell 1
  have t2 := TW.out.tok.cell 2
  have t3 := TW.out.tok.cell 3
  have t4 := TW.out.tok.cell 4
  simp only [List.getElem?_toArray, List.getElem?_cons_zero, List.getElem?_cons_succ] at r0 r1 r2 r3 r4 t0 t1 t2 t3 t4
  obtain ⟨W7, hW7, z0, z1, z2, z3, z4, hb7, hk7⟩ := tok_store TW.out.res TW.out.bel (Nat.le_refl _) (.int .u8 6) (.string ⟨#[]⟩) (.slice none 0 0) (.bool false) (.string ⟨#[]⟩)
  have HW7 := hid hW7
  have HB7 := hid hb7
  clear hW7 hb7 hk7
  go_wp2
  rw [HW7.out]
  refine bodyPost_ret (v := .tuple #[.agg #[.int .u8 6, .string ⟨#[]⟩, .slice none 0 0, .bool false, .string ⟨#[]⟩], .int .i64 (s.size)]) (by simp [results, Tryz.results6, go_sem, z0, z1, z2, z3, z4]) rfl ?_
  exact ⟨by rw [HN.out]; exact lexE_last rfl, HB7.out⟩
set_option maxHeartbeats 4000000 in
theorem rl_R_none (s name : ByteArray) (i : Nat) (m : Nat) (cd : Bool) (w : World) (hs : s.size ≤ 300000) (hps : name.size ≤ 300000) (hm : m < 256) (h1 : 1 ≤ m) (h4 : m ≤ 4) (j : Nat) (hH : Lex.Here s.data.toList (Raw.smallN name.data.toList) m i j) (ha : Tag.begB s.data.toList j = true) (hr : Tag.readP s.data.toList j = none) :
    Calls Tryz.prog 6 #[.string s, .int .i64 i, .int .u8 m, .string name, .bool cd] w fun e w' => LexE (Lex.next s.data.toList (Raw.smallN name.data.toList) m cd i) s.size e w' ∧ Below w.heap.size w w' := by
  have hsl := size_list s
  have hil : i < s.size := by have := hH.1; omega
  have d0 : decide ((i : Int) < 0) = false := decide_eq_false (by omega)
  have d1 : decide ((s.size : Int) ≤ (i : Int)) = false := decide_eq_false (by omega)
  have d1N : decide (s.size ≤ i) = false := decide_eq_false (by omega)
  have hjl : j < s.size := by have := hH.2.2.2; omega
  have g1 : decide ((1 : Int) ≤ (m : Int)) = true := decide_eq_true (by omega)
  have g1N : decide (1 ≤ m) = true := decide_eq_true h1
  have g2 : decide ((m : Int) ≤ 4) = true := decide_eq_true (by omega)
  have g2N : decide (m ≤ 4) = true := decide_eq_true h4
  have RT := fun W => rtext_any s name i m W (by omega) (by omega) (by omega)
  have hV := rawV_yes (l := s.data.toList) (small := Raw.smallN name.data.toList) (n := i) (mode := m) (by omega) h1 h4 rfl
  rw [show ((i : Int) + ((Raw.far (Raw.smallN name.data.toList) m (s.data.toList.drop i) : Nat) : Int)) = ((Lex.rawE s.data.toList (Raw.smallN name.data.toList) m i : Nat) : Int) by unfold Lex.rawE; omega] at hV
  rw [hV] at RT
  obtain ⟨X, hX⟩ : ∃ X, bs (Lex.rawT s.data.toList (Raw.smallN name.data.toList) m i) = X := ⟨_, rfl⟩
  have hX2 : bs (Raw.textOf m ((s.data.toList.drop i).take (Raw.far (Raw.smallN name.data.toList) m (s.data.toList.drop i)))) = X := hX
  rw [hX2] at RT
  have hm1 : Lex.rawM m = true := by unfold Lex.rawM; rw [g1N, g2N]; rfl
  have hXe : X.toList.isEmpty = true := by
    rw [← hX, ByteArray.toList_eq, hH.2.1 hm1]
    rfl
  have hj : Lex.rawE s.data.toList (Raw.smallN name.data.toList) m i = j := by
    have := hH.2.2.1
    unfold Lex.from_ at this
    rwa [if_pos hm1] at this
  rw [hj] at RT
  have e7 : ((j : Int) == (s.size : Int)) = false := beq_eq_false_iff_ne.2 (by omega)
  have e7N : (j == s.size) = false := beq_eq_false_iff_ne.2 (by omega)
  have RT := hid RT
  clear hX hX2 hV hj hm1
  have HB := fun W => begins_any s j W (by omega) (by omega)
  rw [begI_nat, ha] at HB
  have HB := hid HB
  have HR := hid fun W => rread_new s j W (by omega) (by omega)
  have hn := Lex.next_stay (cd := cd) hH (by rw [Lex.mark_none ha hr])
  rw [Lex.mark_none ha hr, hsl] at hn
  have HN := hid hn
  have HA := hid ha
  have HRP := hid hr
  clear hn ha hr hH hsl
  go_enter Tryz.func6, Tryz.ntmps6
  have TW := hid (two_new6 w)
  go_wp2_with fail
  generalize hWW : ((w.alloc (.cells #[.int .u8 0, .string ⟨#[]⟩, .slice none 0 0, .bool false, .string ⟨#[]⟩] 24)).alloc (.cells #[.int .u8 6, .string ⟨#[]⟩, .slice none 0 0, .bool false, .string ⟨#[]⟩] 24)) = W1 at TW ⊢
  clear hWW
  refine (RT.out _).mono ?_
  rintro e w2 ⟨rfl, b2⟩
  have TW := hid (TW.out.below' b2)
  clear b2
  go_wp2_with fail
  refine (HB.out _).mono ?_
  rintro e w3 ⟨rfl, rfl⟩
  go_wp2_with fail
  refine (HR.out _).mono ?_
  rintro e w4 ⟨⟨he, hnew⟩, b4⟩
  obtain rfl := readE_none he HA.out HRP.out
  clear he hnew
  have TX := (TW.out.below' b4).more (.cells #[.int .u8 0, .string (bs []), .slice none 0 0, .bool false, .string (bs [])] 24)
  clear b4
  unfold tokV
  have r0 := TX.res.cell 0
  have r1 := TX.res.cell 1
  have r2 := TX.res.cell 2
  have r3 := TX.res.cell 3
  have r4 := TX.res.cell 4
  have f0 := TX.res.free 0
  have f1 := TX.res.free 1
  have f2 := TX.res.free 2
  have f3 := TX.res.free 3
  have f4 := TX.res.free 4
  have t0 := TX.tok.cell 0
  have t1 := TX.tok.cell 1
  have t2 := TX.tok.cell 2
  have t3 := TX.tok.cell 3
  have t4 := TX.tok.cell 4
  simp only [List.getElem?_toArray, List.getElem?_cons_zero, List.getElem?_cons_succ] at r0 r1 r2 r3 r4 t0 t1 t2 t3 t4
  obtain ⟨W7, hW7, z0, z1, z2, z3, z4, hb7, hk7⟩ := tok_store TX.res TX.bel (Nat.le_refl _) (.int .u8 6) (.string ⟨#[]⟩) (.slice none 0 0) (.bool false) (.string ⟨#[]⟩)
  have HW7 := hid hW7
  have HB7 := hid hb7
  clear hW7 hb7 hk7 TX
  go_wp2
  rw [HW7.out]
  refine bodyPost_ret (v := .tuple #[.agg #[.int .u8 6, .string ⟨#[]⟩, .slice none 0 0, .bool false, .string ⟨#[]⟩], .int .i64 (s.size)]) (by simp [results, Tryz.results6, go_sem, z0, z1, z2, z3, z4]) rfl ?_
  exact ⟨by rw [HN.out]; exact lexE_last rfl, HB7.out⟩
set_option maxHeartbeats 4000000 in
theorem rl_R_tag (s name : ByteArray) (i : Nat) (m : Nat) (cd : Bool) (w : World) (hs : s.size ≤ 300000) (hps : name.size ≤ 300000) (hm : m < 256) (h1 : 1 ≤ m) (h4 : m ≤ 4) (j : Nat) (hH : Lex.Here s.data.toList (Raw.smallN name.data.toList) m i j) (t : Tag.Tok) (n : Nat) (ha : Tag.begB s.data.toList j = true) (hr : Tag.readP s.data.toList j = some (t, n)) :
    Calls Tryz.prog 6 #[.string s, .int .i64 i, .int .u8 m, .string name, .bool cd] w fun e w' => LexE (Lex.next s.data.toList (Raw.smallN name.data.toList) m cd i) s.size e w' ∧ Below w.heap.size w w' := by
  have hsl := size_list s
  have hil : i < s.size := by have := hH.1; omega
  have d0 : decide ((i : Int) < 0) = false := decide_eq_false (by omega)
  have d1 : decide ((s.size : Int) ≤ (i : Int)) = false := decide_eq_false (by omega)
  have d1N : decide (s.size ≤ i) = false := decide_eq_false (by omega)
  have hjl : j < s.size := by have := hH.2.2.2; omega
  have g1 : decide ((1 : Int) ≤ (m : Int)) = true := decide_eq_true (by omega)
  have g1N : decide (1 ≤ m) = true := decide_eq_true h1
  have g2 : decide ((m : Int) ≤ 4) = true := decide_eq_true (by omega)
  have g2N : decide (m ≤ 4) = true := decide_eq_true h4
  have RT := fun W => rtext_any s name i m W (by omega) (by omega) (by omega)
  have hV := rawV_yes (l := s.data.toList) (small := Raw.smallN name.data.toList) (n := i) (mode := m) (by omega) h1 h4 rfl
  rw [show ((i : Int) + ((Raw.far (Raw.smallN name.data.toList) m (s.data.toList.drop i) : Nat) : Int)) = ((Lex.rawE s.data.toList (Raw.smallN name.data.toList) m i : Nat) : Int) by unfold Lex.rawE; omega] at hV
  rw [hV] at RT
  obtain ⟨X, hX⟩ : ∃ X, bs (Lex.rawT s.data.toList (Raw.smallN name.data.toList) m i) = X := ⟨_, rfl⟩
  have hX2 : bs (Raw.textOf m ((s.data.toList.drop i).take (Raw.far (Raw.smallN name.data.toList) m (s.data.toList.drop i)))) = X := hX
  rw [hX2] at RT
  have hm1 : Lex.rawM m = true := by unfold Lex.rawM; rw [g1N, g2N]; rfl
  have hXe : X.toList.isEmpty = true := by
    rw [← hX, ByteArray.toList_eq, hH.2.1 hm1]
    rfl
  have hj : Lex.rawE s.data.toList (Raw.smallN name.data.toList) m i = j := by
    have := hH.2.2.1
    unfold Lex.from_ at this
    rwa [if_pos hm1] at this
  rw [hj] at RT
  have e7 : ((j : Int) == (s.size : Int)) = false := beq_eq_false_iff_ne.2 (by omega)
  have e7N : (j == s.size) = false := beq_eq_false_iff_ne.2 (by omega)
  have RT := hid RT
  clear hX hX2 hV hj hm1
  have HB := fun W => begins_any s j W (by omega) (by omega)
  rw [begI_nat, ha] at HB
  have HB := hid HB
  have HR := hid fun W => rread_new s j W (by omega) (by omega)
  have hn := Lex.next_stay (cd := cd) hH (by rw [Lex.mark_tag ha hr])
  rw [Lex.mark_tag ha hr] at hn
  have HN := hid hn
  have HA := hid ha
  have HRP := hid hr
  have HSL := hid hsl
  obtain ⟨NM, hNM⟩ : ∃ NM, bs t.name = NM := ⟨_, rfl⟩
  have HNM := hid hNM
  clear hn ha hr hH hsl hNM
  go_enter Tryz.func6, Tryz.ntmps6
  have TW := hid (two_new6 w)
  go_wp2_with fail
  generalize hWW : ((w.alloc (.cells #[.int .u8 0, .string ⟨#[]⟩, .slice none 0 0, .bool false, .string ⟨#[]⟩] 24)).alloc (.cells #[.int .u8 6, .string ⟨#[]⟩, .slice none 0 0, .bool false, .string ⟨#[]⟩] 24)) = W1 at TW ⊢
  clear hWW
  refine (RT.out _).mono ?_
  rintro e w2 ⟨rfl, b2⟩
  have TW := hid (TW.out.below' b2)
  clear b2
  go_wp2_with fail
  refine (HB.out _).mono ?_
  rintro e w3 ⟨rfl, rfl⟩
  go_wp2_with fail
  refine (HR.out _).mono ?_
  rintro e w4 ⟨⟨he, hnew⟩, b4⟩
  obtain ⟨a, k, c, rfl, hI, hk⟩ := readE_some he HA.out HRP.out
  have hty : TypB w4 a := fun x hx => by
    subst hx
    exact (hnew _ _ _ _ _ _ _ _ _ rfl).2
  clear he hnew
  unfold tokV
  rw [HNM.out]
  obtain ⟨kd, hkd⟩ : ∃ kd, t.kind = kd := ⟨_, rfl⟩
  obtain ⟨sf, hsf⟩ : ∃ sf, t.self = sf := ⟨_, rfl⟩
  rw [hkd, hsf]
  have HKD := hid hkd
  have HSF := hid hsf
  have TX := (TW.out.below' b4).more (.cells #[.int .u8 kd, .string NM, .slice a k c, .bool sf, .string (bs [])] 24)
  have hTX := hty.below ((Below.refl w4.heap.size w4).alloc (Nat.le_refl _) (.cells #[.int .u8 kd, .string NM, .slice a k c, .bool sf, .string (bs [])] 24))
  have hIX := hI.below ((Below.refl w4.heap.size w4).alloc (Nat.le_refl _) (.cells #[.int .u8 kd, .string NM, .slice a k c, .bool sf, .string (bs [])] 24))
  have XB := BlkW.new w4 #[.int .u8 kd, .string NM, .slice a k c, .bool sf, .string (bs [])] 24
  have hne := isA_tok hIX TX.res (fun z e => by cases e)
  clear b4 hI hkd hsf hty
  have r0 := TX.res.cell 0
  have r1 := TX.res.cell 1
  have r2 := TX.res.cell 2
  have r3 := TX.res.cell 3
  have r4 := TX.res.cell 4
  have f0 := TX.res.free 0
  have f1 := TX.res.free 1
  have f2 := TX.res.free 2
  have f3 := TX.res.free 3
  have f4 := TX.res.free 4
  have x0 := XB.cell 0
  have x1 := XB.cell 1
  have x2 := XB.cell 2
  have x3 := XB.cell 3
  have x4 := XB.cell 4
  simp only [List.getElem?_toArray, List.getElem?_cons_zero, List.getElem?_cons_succ] at r0 r1 r2 r3 r4 x0 x1 x2 x3 x4
  obtain ⟨W7, hW7, z0, z1, z2, z3, z4, hb7, hk7⟩ := tok_store TX.res TX.bel (Nat.le_refl _) (.int .u8 kd) (.string NM) (.slice a k c) (.bool sf) (.string (bs []))
  have hIY := hid (isA_stay hIX hne hk7)
  have hTY := hid (typ_stay hTX TX.res hk7)
  have HK := hid hk
  have HW7 := hid hW7
  have HB7 := hid hb7
  clear hW7 hb7 hk7 TX hIX hTX hne XB hk
  go_wp2
  rw [HW7.out]
  refine bodyPost_ret (v := .tuple #[.agg #[.int .u8 kd, .string NM, .slice a k c, .bool sf, .string (bs [])], .int .i64 (n)]) (by simp [results, Tryz.results6, go_sem, z0, z1, z2, z3, z4]) rfl ?_
  exact ⟨by rw [HN.out]; exact ⟨a, k, c, by rw [← HNM.out, ← HKD.out, ← HSF.out]; rfl, hIY.out, by have := HK.out; have := HSL.out; omega, hTY.out⟩, HB7.out⟩
set_option maxHeartbeats 4000000 in
theorem rl_R_go (s name : ByteArray) (i : Nat) (m : Nat) (cd : Bool) (w : World) (hs : s.size ≤ 300000) (hps : name.size ≤ 300000) (hm : m < 256) (h1 : 1 ≤ m) (h4 : m ≤ 4) (j : Nat) (hH : Lex.Here s.data.toList (Raw.smallN name.data.toList) m i j) (tx : List UInt8) (n : Nat) (ha : Tag.begB s.data.toList j = false) (hb : Note.begB (s.data.toList.drop j) = true) (hf : Note.first (s.data.toList.drop j) cd = (0, tx, n)) (IH : RNextC s name m cd (j + n)) :
    Calls Tryz.prog 6 #[.string s, .int .i64 i, .int .u8 m, .string name, .bool cd] w fun e w' => LexE (Lex.next s.data.toList (Raw.smallN name.data.toList) m cd i) s.size e w' ∧ Below w.heap.size w w' := by
  have hsl := size_list s
  have hil : i < s.size := by have := hH.1; omega
  have d0 : decide ((i : Int) < 0) = false := decide_eq_false (by omega)
  have d1 : decide ((s.size : Int) ≤ (i : Int)) = false := decide_eq_false (by omega)
  have d1N : decide (s.size ≤ i) = false := decide_eq_false (by omega)
  have hjl : j < s.size := by have := hH.2.2.2; omega
  have g1 : decide ((1 : Int) ≤ (m : Int)) = true := decide_eq_true (by omega)
  have g1N : decide (1 ≤ m) = true := decide_eq_true h1
  have g2 : decide ((m : Int) ≤ 4) = true := decide_eq_true (by omega)
  have g2N : decide (m ≤ 4) = true := decide_eq_true h4
  have RT := fun W => rtext_any s name i m W (by omega) (by omega) (by omega)
  have hV := rawV_yes (l := s.data.toList) (small := Raw.smallN name.data.toList) (n := i) (mode := m) (by omega) h1 h4 rfl
  rw [show ((i : Int) + ((Raw.far (Raw.smallN name.data.toList) m (s.data.toList.drop i) : Nat) : Int)) = ((Lex.rawE s.data.toList (Raw.smallN name.data.toList) m i : Nat) : Int) by unfold Lex.rawE; omega] at hV
  rw [hV] at RT
  obtain ⟨X, hX⟩ : ∃ X, bs (Lex.rawT s.data.toList (Raw.smallN name.data.toList) m i) = X := ⟨_, rfl⟩
  have hX2 : bs (Raw.textOf m ((s.data.toList.drop i).take (Raw.far (Raw.smallN name.data.toList) m (s.data.toList.drop i)))) = X := hX
  rw [hX2] at RT
  have hm1 : Lex.rawM m = true := by unfold Lex.rawM; rw [g1N, g2N]; rfl
  have hXe : X.toList.isEmpty = true := by
    rw [← hX, ByteArray.toList_eq, hH.2.1 hm1]
    rfl
  have hj : Lex.rawE s.data.toList (Raw.smallN name.data.toList) m i = j := by
    have := hH.2.2.1
    unfold Lex.from_ at this
    rwa [if_pos hm1] at this
  rw [hj] at RT
  have e7 : ((j : Int) == (s.size : Int)) = false := beq_eq_false_iff_ne.2 (by omega)
  have e7N : (j == s.size) = false := beq_eq_false_iff_ne.2 (by omega)
  have RT := hid RT
  clear hX hX2 hV hj hm1
  have HB := fun W => begins_any s j W (by omega) (by omega)
  rw [begI_nat, ha] at HB
  have HB := hid HB
  have HC := fun W => rnbegins_any s j W (by omega) (by omega)
  rw [decide_eq_true (show (0 : Int) ≤ (j : Int) by omega), Bool.true_and, show ((j : Int)).toNat = j by omega, hb] at HC
  have HC := hid HC
  have HR := fun W => rnread_any s j cd W (by omega) (by omega)
  have hbI : begNI s.data.toList (j : Int) = true := by rw [begNI_nat]; exact hb
  rw [noteV_yes hbI hf] at HR
  obtain ⟨en, hen⟩ : ∃ en, j + n = en := ⟨_, rfl⟩
  rw [show ((j : Int) + (n : Int)) = (en : Int) by omega] at HR
  obtain ⟨Z, hZ⟩ : ∃ Z, bs tx = Z := ⟨_, rfl⟩
  rw [hZ] at HR
  have HR := hid HR
  have hn := Lex.next_go (cd := cd) hH (by rw [Lex.mark_note ha hb hf]; rfl)
  rw [Lex.mark_note ha hb hf] at hn
  simp only [hen] at hn
  rw [hen] at IH
  have HN := hid hn
  have IH := hid IH
  clear hn ha hb hf hH hsl hZ hen hbI
  go_enter Tryz.func6, Tryz.ntmps6
  have TW := hid (two_new6 w)
  go_wp2_with fail
  generalize hWW : ((w.alloc (.cells #[.int .u8 0, .string ⟨#[]⟩, .slice none 0 0, .bool false, .string ⟨#[]⟩] 24)).alloc (.cells #[.int .u8 6, .string ⟨#[]⟩, .slice none 0 0, .bool false, .string ⟨#[]⟩] 24)) = W1 at TW ⊢
  clear hWW
  refine (RT.out _).mono ?_
  rintro e w2 ⟨rfl, b2⟩
  have TW := hid (TW.out.below' b2)
  clear b2
  go_wp2_with fail
  refine (HB.out _).mono ?_
  rintro e w3 ⟨rfl, rfl⟩
  go_wp2_with fail
  refine (HC.out _).mono ?_
  rintro e w4 ⟨rfl, rfl⟩
  go_wp2_with fail
  refine (HR.out _).mono ?_
  rintro e w5 ⟨rfl, b5⟩
  have TX := hid ((TW.out.below' b5).more (.cells #[.int .u8 0, .string ⟨#[]⟩, .slice none 0 0, .bool false, .string Z] 24))
  have XB := hid (BlkW.new w5 #[.int .u8 0, .string ⟨#[]⟩, .slice none 0 0, .bool false, .string Z] 24)
  clear b5
  have y0 := XB.out.cell 0
  simp only [List.getElem?_toArray, List.getElem?_cons_zero] at y0
  go_wp2_with fail
  refine (IH.out _).mono ?_
  rintro e w6 ⟨⟨a, k, c, rfl, hI, hk, hty⟩, b6⟩
  clear y0
  rw [← HN.out] at hI ⊢
  obtain ⟨R, hR⟩ : ∃ R, Lex.next s.data.toList (Raw.smallN name.data.toList) m cd i = R := ⟨_, rfl⟩
  rw [hR] at hI ⊢
  have HR2 := hid hR
  unfold tokV
  obtain ⟨NM, hNM⟩ : ∃ NM, bs R.1.name = NM := ⟨_, rfl⟩
  obtain ⟨TT, hTT⟩ : ∃ TT, bs R.1.text = TT := ⟨_, rfl⟩
  obtain ⟨kd, hkd⟩ : ∃ kd, R.1.kind = kd := ⟨_, rfl⟩
  obtain ⟨sf, hsf⟩ : ∃ sf, R.1.self = sf := ⟨_, rfl⟩
  obtain ⟨pl, hpl⟩ : ∃ pl, R.2 = pl := ⟨_, rfl⟩
  rw [hNM, hTT, hkd, hsf, hpl]
  have HV := hid (And.intro hNM (And.intro hTT (And.intro hkd (And.intro hsf hpl))))
  have TY := TX.out.below' b6
  have hne := isA_tok hI TY.res (fun z e => by cases e)
  clear b6 hR hNM hTT hkd hsf hpl
  have r0 := TY.res.cell 0
  have r1 := TY.res.cell 1
  have r2 := TY.res.cell 2
  have r3 := TY.res.cell 3
  have r4 := TY.res.cell 4
  have f0 := TY.res.free 0
  have f1 := TY.res.free 1
  have f2 := TY.res.free 2
  have f3 := TY.res.free 3
  have f4 := TY.res.free 4
  simp only [List.getElem?_toArray, List.getElem?_cons_zero, List.getElem?_cons_succ] at r0 r1 r2 r3 r4
  obtain ⟨W7, hW7, z0, z1, z2, z3, z4, hb7, hk7⟩ := tok_store TY.res TY.bel (Nat.le_refl _) (.int .u8 kd) (.string NM) (.slice a k c) (.bool sf) (.string TT)
  have hIY := hid (isA_stay hI hne hk7)
  have hTY := hid (typ_stay hty TY.res hk7)
  have HK := hid hk
  have HW7 := hid hW7
  have HB7 := hid hb7
  clear hW7 hb7 hk7 TY hI hne hk hty
  go_wp2
  rw [HW7.out]
  refine bodyPost_ret (v := .tuple #[.agg #[.int .u8 kd, .string NM, .slice a k c, .bool sf, .string TT], .int .i64 (pl)]) (by simp [results, Tryz.results6, go_sem, z0, z1, z2, z3, z4]) rfl ?_
  exact ⟨by rw [HR2.out]; obtain ⟨v1, v2, v3, v4, v5⟩ := HV.out; exact ⟨a, k, c, by rw [← v1, ← v2, ← v3, ← v4, ← v5]; rfl, hIY.out, HK.out, hTY.out⟩, HB7.out⟩
set_option maxHeartbeats 4000000 in
theorem rl_R_stay (s name : ByteArray) (i : Nat) (m : Nat) (cd : Bool) (w : World) (hs : s.size ≤ 300000) (hps : name.size ≤ 300000) (hm : m < 256) (h1 : 1 ≤ m) (h4 : m ≤ 4) (j : Nat) (hH : Lex.Here s.data.toList (Raw.smallN name.data.toList) m i j) (K : Nat) (tx : List UInt8) (n : Nat) (ha : Tag.begB s.data.toList j = false) (hb : Note.begB (s.data.toList.drop j) = true) (hf : Note.first (s.data.toList.drop j) cd = (K, tx, n)) (hK : K ≠ 0) :
    Calls Tryz.prog 6 #[.string s, .int .i64 i, .int .u8 m, .string name, .bool cd] w fun e w' => LexE (Lex.next s.data.toList (Raw.smallN name.data.toList) m cd i) s.size e w' ∧ Below w.heap.size w w' := by
  have hsl := size_list s
  have hil : i < s.size := by have := hH.1; omega
  have d0 : decide ((i : Int) < 0) = false := decide_eq_false (by omega)
  have d1 : decide ((s.size : Int) ≤ (i : Int)) = false := decide_eq_false (by omega)
  have d1N : decide (s.size ≤ i) = false := decide_eq_false (by omega)
  have hjl : j < s.size := by have := hH.2.2.2; omega
  have g1 : decide ((1 : Int) ≤ (m : Int)) = true := decide_eq_true (by omega)
  have g1N : decide (1 ≤ m) = true := decide_eq_true h1
  have g2 : decide ((m : Int) ≤ 4) = true := decide_eq_true (by omega)
  have g2N : decide (m ≤ 4) = true := decide_eq_true h4
  have RT := fun W => rtext_any s name i m W (by omega) (by omega) (by omega)
  have hV := rawV_yes (l := s.data.toList) (small := Raw.smallN name.data.toList) (n := i) (mode := m) (by omega) h1 h4 rfl
  rw [show ((i : Int) + ((Raw.far (Raw.smallN name.data.toList) m (s.data.toList.drop i) : Nat) : Int)) = ((Lex.rawE s.data.toList (Raw.smallN name.data.toList) m i : Nat) : Int) by unfold Lex.rawE; omega] at hV
  rw [hV] at RT
  obtain ⟨X, hX⟩ : ∃ X, bs (Lex.rawT s.data.toList (Raw.smallN name.data.toList) m i) = X := ⟨_, rfl⟩
  have hX2 : bs (Raw.textOf m ((s.data.toList.drop i).take (Raw.far (Raw.smallN name.data.toList) m (s.data.toList.drop i)))) = X := hX
  rw [hX2] at RT
  have hm1 : Lex.rawM m = true := by unfold Lex.rawM; rw [g1N, g2N]; rfl
  have hXe : X.toList.isEmpty = true := by
    rw [← hX, ByteArray.toList_eq, hH.2.1 hm1]
    rfl
  have hj : Lex.rawE s.data.toList (Raw.smallN name.data.toList) m i = j := by
    have := hH.2.2.1
    unfold Lex.from_ at this
    rwa [if_pos hm1] at this
  rw [hj] at RT
  have e7 : ((j : Int) == (s.size : Int)) = false := beq_eq_false_iff_ne.2 (by omega)
  have e7N : (j == s.size) = false := beq_eq_false_iff_ne.2 (by omega)
  have RT := hid RT
  clear hX hX2 hV hj hm1
  have HB := fun W => begins_any s j W (by omega) (by omega)
  rw [begI_nat, ha] at HB
  have HB := hid HB
  have HC := fun W => rnbegins_any s j W (by omega) (by omega)
  rw [decide_eq_true (show (0 : Int) ≤ (j : Int) by omega), Bool.true_and, show ((j : Int)).toNat = j by omega, hb] at HC
  have HC := hid HC
  have HR := fun W => rnread_any s j cd W (by omega) (by omega)
  have hbI : begNI s.data.toList (j : Int) = true := by rw [begNI_nat]; exact hb
  rw [noteV_yes hbI hf] at HR
  obtain ⟨en, hen⟩ : ∃ en, j + n = en := ⟨_, rfl⟩
  rw [show ((j : Int) + (n : Int)) = (en : Int) by omega] at HR
  obtain ⟨Z, hZ⟩ : ∃ Z, bs tx = Z := ⟨_, rfl⟩
  rw [hZ] at HR
  have HR := hid HR
  have hK0 : (((K : Nat) : Int) == 0) = false := beq_eq_false_iff_ne.2 (by omega)
  have hn := Lex.next_stay (cd := cd) hH (by rw [Lex.mark_note ha hb hf]; exact decide_eq_false hK)
  rw [Lex.mark_note ha hb hf] at hn
  simp only [hen] at hn
  have HN := hid hn
  have HZ := hid hZ
  clear hn ha hb hf hH hsl hZ hen hbI
  go_enter Tryz.func6, Tryz.ntmps6
  have TW := hid (two_new6 w)
  go_wp2_with fail
  generalize hWW : ((w.alloc (.cells #[.int .u8 0, .string ⟨#[]⟩, .slice none 0 0, .bool false, .string ⟨#[]⟩] 24)).alloc (.cells #[.int .u8 6, .string ⟨#[]⟩, .slice none 0 0, .bool false, .string ⟨#[]⟩] 24)) = W1 at TW ⊢
  clear hWW
  refine (RT.out _).mono ?_
  rintro e w2 ⟨rfl, b2⟩
  have TW := hid (TW.out.below' b2)
  clear b2
  go_wp2_with fail
  refine (HB.out _).mono ?_
  rintro e w3 ⟨rfl, rfl⟩
  go_wp2_with fail
  refine (HC.out _).mono ?_
  rintro e w4 ⟨rfl, rfl⟩
  go_wp2_with fail
  refine (HR.out _).mono ?_
  rintro e w5 ⟨rfl, b5⟩
  have TX := hid ((TW.out.below' b5).more (.cells #[.int .u8 K, .string ⟨#[]⟩, .slice none 0 0, .bool false, .string Z] 24))
  have XB := hid (BlkW.new w5 #[.int .u8 K, .string ⟨#[]⟩, .slice none 0 0, .bool false, .string Z] 24)
  clear b5
  have r0 := TX.out.res.cell 0
  have r1 := TX.out.res.cell 1
  have r2 := TX.out.res.cell 2
  have r3 := TX.out.res.cell 3
  have r4 := TX.out.res.cell 4
  have f0 := TX.out.res.free 0
  have f1 := TX.out.res.free 1
  have f2 := TX.out.res.free 2
  have f3 := TX.out.res.free 3
  have f4 := TX.out.res.free 4
  have x0 := XB.out.cell 0
  have x1 := XB.out.cell 1
  have x2 := XB.out.cell 2
  have x3 := XB.out.cell 3
  have x4 := XB.out.cell 4
  simp only [List.getElem?_toArray, List.getElem?_cons_zero, List.getElem?_cons_succ] at r0 r1 r2 r3 r4 x0 x1 x2 x3 x4
  obtain ⟨W7, hW7, z0, z1, z2, z3, z4, hb7, hk7⟩ := tok_store TX.out.res TX.out.bel (Nat.le_refl _) (.int .u8 K) (.string ⟨#[]⟩) (.slice none 0 0) (.bool false) (.string Z)
  have HW7 := hid hW7
  have HB7 := hid hb7
  clear hW7 hb7 hk7
  go_wp2
  rw [HW7.out]
  refine bodyPost_ret (v := .tuple #[.agg #[.int .u8 K, .string ⟨#[]⟩, .slice none 0 0, .bool false, .string Z], .int .i64 (en)]) (by simp [results, Tryz.results6, go_sem, z0, z1, z2, z3, z4]) rfl ?_
  exact ⟨by rw [HN.out]; exact lexE_plain (by rw [HZ.out]), HB7.out⟩
set_option maxHeartbeats 4000000 in
theorem rl_R_text (s name : ByteArray) (i : Nat) (m : Nat) (cd : Bool) (w : World) (hs : s.size ≤ 300000) (hps : name.size ≤ 300000) (hm : m < 256) (h1 : 1 ≤ m) (h4 : m ≤ 4) (j : Nat) (hH : Lex.Here s.data.toList (Raw.smallN name.data.toList) m i j) (ha : Tag.begB s.data.toList j = false) (hb : Note.begB (s.data.toList.drop j) = false) :
    Calls Tryz.prog 6 #[.string s, .int .i64 i, .int .u8 m, .string name, .bool cd] w fun e w' => LexE (Lex.next s.data.toList (Raw.smallN name.data.toList) m cd i) s.size e w' ∧ Below w.heap.size w w' := by
  have hsl := size_list s
  have hil : i < s.size := by have := hH.1; omega
  have d0 : decide ((i : Int) < 0) = false := decide_eq_false (by omega)
  have d1 : decide ((s.size : Int) ≤ (i : Int)) = false := decide_eq_false (by omega)
  have d1N : decide (s.size ≤ i) = false := decide_eq_false (by omega)
  have hjl : j < s.size := by have := hH.2.2.2; omega
  have g1 : decide ((1 : Int) ≤ (m : Int)) = true := decide_eq_true (by omega)
  have g1N : decide (1 ≤ m) = true := decide_eq_true h1
  have g2 : decide ((m : Int) ≤ 4) = true := decide_eq_true (by omega)
  have g2N : decide (m ≤ 4) = true := decide_eq_true h4
  have RT := fun W => rtext_any s name i m W (by omega) (by omega) (by omega)
  have hV := rawV_yes (l := s.data.toList) (small := Raw.smallN name.data.toList) (n := i) (mode := m) (by omega) h1 h4 rfl
  rw [show ((i : Int) + ((Raw.far (Raw.smallN name.data.toList) m (s.data.toList.drop i) : Nat) : Int)) = ((Lex.rawE s.data.toList (Raw.smallN name.data.toList) m i : Nat) : Int) by unfold Lex.rawE; omega] at hV
  rw [hV] at RT
  obtain ⟨X, hX⟩ : ∃ X, bs (Lex.rawT s.data.toList (Raw.smallN name.data.toList) m i) = X := ⟨_, rfl⟩
  have hX2 : bs (Raw.textOf m ((s.data.toList.drop i).take (Raw.far (Raw.smallN name.data.toList) m (s.data.toList.drop i)))) = X := hX
  rw [hX2] at RT
  have hm1 : Lex.rawM m = true := by unfold Lex.rawM; rw [g1N, g2N]; rfl
  have hXe : X.toList.isEmpty = true := by
    rw [← hX, ByteArray.toList_eq, hH.2.1 hm1]
    rfl
  have hj : Lex.rawE s.data.toList (Raw.smallN name.data.toList) m i = j := by
    have := hH.2.2.1
    unfold Lex.from_ at this
    rwa [if_pos hm1] at this
  rw [hj] at RT
  have e7 : ((j : Int) == (s.size : Int)) = false := beq_eq_false_iff_ne.2 (by omega)
  have e7N : (j == s.size) = false := beq_eq_false_iff_ne.2 (by omega)
  have RT := hid RT
  clear hX hX2 hV hj hm1
  have HB := fun W => begins_any s j W (by omega) (by omega)
  rw [begI_nat, ha] at HB
  have HB := hid HB
  have HC := fun W => rnbegins_any s j W (by omega) (by omega)
  rw [decide_eq_true (show (0 : Int) ≤ (j : Int) by omega), Bool.true_and, show ((j : Int)).toNat = j by omega, hb] at HC
  have HC := hid HC
  obtain ⟨E, hE⟩ : ∃ E, Lex.upM s.data.toList (j + 1) = E := ⟨_, rfl⟩
  have hEb := Lex.upM_ge s.data.toList (j + 1) (by omega)
  rw [hE, hsl] at hEb
  have hn := Lex.next_stay (cd := cd) hH (by rw [Lex.mark_text ha hb hE])
  rw [Lex.mark_text ha hb hE] at hn
  have hpl : (s.extract j E).data.toList = (s.data.toList.drop j).take (E - j) := raw_mid s j E
  have HD := fun W => rdecode_any (s.extract j E) false W (by rw [← size_list, hpl, List.length_take]; omega)
  rw [hpl] at HD
  obtain ⟨Z, hZ⟩ : ∃ Z : ByteArray, (⟨(Ent.decode false ((s.data.toList.drop j).take (E - j))).toArray⟩ : ByteArray) = Z := ⟨_, rfl⟩
  rw [hZ] at HD
  have HD := hid HD
  have HN := hid hn
  have HZ := hid hZ
  have HSL := hid hsl
  have HM := hid fun (k : Nat) (hk : k ≤ 1000000) W => rmarkup_any s k W (by omega) hk
  have H0 : Hid (Lex.upM s.data.toList (j + 1) = E) := hid hE
  have f1 : ((j : Int)).toNat = j := by omega
  have f2 : (0 : Int) ≤ (j : Int) := by omega
  have f3 : (j : Int) ≤ (E : Int) := by omega
  have f4 : (E : Int) ≤ (s.size : Int) := by omega
  have f5 : ((E : Int)).toNat = E := by omega
  have f6 : (0 : Int) ≤ (E : Int) := by omega
  have f7 : j ≤ E := by omega
  have hEs : E ≤ s.size := by omega
  clear hn ha hb hE hH hsl hZ hpl hEb
  go_enter Tryz.func6, Tryz.ntmps6
  have TW := hid (two_new6 w)
  go_wp2_with fail
  generalize hWW : ((w.alloc (.cells #[.int .u8 0, .string ⟨#[]⟩, .slice none 0 0, .bool false, .string ⟨#[]⟩] 24)).alloc (.cells #[.int .u8 6, .string ⟨#[]⟩, .slice none 0 0, .bool false, .string ⟨#[]⟩] 24)) = W1 at TW ⊢
  clear hWW
  refine (RT.out _).mono ?_
  rintro e w2 ⟨rfl, b2⟩
  have TW := hid (TW.out.below' b2)
  clear b2
  go_wp2_with fail
  refine (HB.out _).mono ?_
  rintro e w3 ⟨rfl, rfl⟩
  go_wp2_with fail
  refine (HC.out _).mono ?_
  rintro e w4 ⟨rfl, rfl⟩
  go_wp2
  go_loopg [22] (s.size - j) (fun g iv wr => ∃ k : Nat, j + 1 ≤ k ∧ k ≤ s.size ∧ s.size - k ≤ g ∧ iv = .int .i64 k ∧ Hid (Lex.upM s.data.toList k = E) ∧ Hid (TwoW w wr 6 ⟨#[]⟩))
  case atStart => exact ⟨j + 1, by omega, by omega, by omega, by go_num, H0, TW⟩
  case round =>
    obtain ⟨k, hjk, hks, hg, rfl, hI, TW⟩ := hrel
    by_cases hlt : k < s.size
    · have e1 : decide (k < s.size) = true := decide_eq_true hlt
      have hltI : (k : Int) < (s.size : Int) := by omega
      have M1 := fun W => HM.out k (by omega) W
      cases hm : Lex.markB s.data.toList k with
      | true =>
        rw [hm] at M1
        have M1 := hid M1
        obtain rfl : k = E := by have h := hI.out; rw [Lex.upM_yes hm] at h; exact h
        clear hm hI
        go_wp2_with fail
        refine (M1.out _).mono ?_
        rintro e w5 ⟨rfl, rfl⟩
        go_wp2_with fail
        refine (HD.out _).mono ?_
        rintro e w6 ⟨rfl, b6⟩
        have TX := TW.out.below' b6
        clear b6
        have r0 := TX.res.cell 0
        have r1 := TX.res.cell 1
        have r2 := TX.res.cell 2
        have r3 := TX.res.cell 3
        have r4 := TX.res.cell 4
        have f0 := TX.res.free 0
        have f1 := TX.res.free 1
        have f2 := TX.res.free 2
        have f3 := TX.res.free 3
        have f4 := TX.res.free 4
        simp only [List.getElem?_toArray, List.getElem?_cons_zero, List.getElem?_cons_succ] at r0 r1 r2 r3 r4
        obtain ⟨W7, hW7, z0, z1, z2, z3, z4, hb7, hk7⟩ := tok_store TX.res TX.bel (Nat.le_refl _) (.int .u8 1) (.string ⟨#[]⟩) (.slice none 0 0) (.bool false) (.string Z)
        have HW7 := hid hW7
        have HB7 := hid hb7
        clear hW7 hb7 hk7 TX
        go_wp2
        rw [HW7.out]
        refine bodyPost_ret (v := .tuple #[.agg #[.int .u8 1, .string ⟨#[]⟩, .slice none 0 0, .bool false, .string Z], .int .i64 (k)]) (by simp [results, Tryz.results6, go_sem, z0, z1, z2, z3, z4]) rfl ?_
        exact ⟨by rw [HN.out]; exact lexE_plain (by rw [← HZ.out]; rfl), HB7.out⟩
      | false =>
        rw [hm] at M1
        have M1 := hid M1
        have HN2 : Hid (Lex.upM s.data.toList (k + 1) = E) := hid (by rw [← Lex.upM_no hm (by rw [HSL.out]; exact hlt)]; exact hI.out)
        clear hm hI
        go_wp2_with fail
        refine (M1.out _).mono ?_
        rintro e w5 ⟨rfl, rfl⟩
        go_wp2
        go_roundg (s.size - (k + 1))
        case measure => omega
        case rel => exact ⟨k + 1, by omega, by omega, by omega, by go_num, HN2, TW⟩
    · have e1 : decide (k < s.size) = false := decide_eq_false hlt
      have hltI : ¬ (k : Int) < (s.size : Int) := by omega
      obtain rfl : k = E := by have h := hI.out; rw [Lex.upM_end (by rw [HSL.out]; omega)] at h; exact h
      clear hI
      go_wp2_with fail
      refine (HD.out _).mono ?_
      rintro e w6 ⟨rfl, b6⟩
      have TX := TW.out.below' b6
      clear b6
      have r0 := TX.res.cell 0
      have r1 := TX.res.cell 1
      have r2 := TX.res.cell 2
      have r3 := TX.res.cell 3
      have r4 := TX.res.cell 4
      have f0 := TX.res.free 0
      have f1 := TX.res.free 1
      have f2 := TX.res.free 2
      have f3 := TX.res.free 3
      have f4 := TX.res.free 4
      simp only [List.getElem?_toArray, List.getElem?_cons_zero, List.getElem?_cons_succ] at r0 r1 r2 r3 r4
      obtain ⟨W7, hW7, z0, z1, z2, z3, z4, hb7, hk7⟩ := tok_store TX.res TX.bel (Nat.le_refl _) (.int .u8 1) (.string ⟨#[]⟩) (.slice none 0 0) (.bool false) (.string Z)
      have HW7 := hid hW7
      have HB7 := hid hb7
      clear hW7 hb7 hk7 TX
      go_wp2
      rw [HW7.out]
      refine bodyPost_ret (v := .tuple #[.agg #[.int .u8 1, .string ⟨#[]⟩, .slice none 0 0, .bool false, .string Z], .int .i64 (k)]) (by simp [results, Tryz.results6, go_sem, z0, z1, z2, z3, z4]) rfl ?_
      exact ⟨by rw [HN.out]; exact lexE_plain (by rw [← HZ.out]; rfl), HB7.out⟩
end Go.Proofs.YtgldgdopabmefaaGreatDoor
