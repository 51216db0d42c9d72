/- Walks: package note: what something begins with, and what stands behind it. -/
import Derived.Test.YtgldgdopabmefaaGreatDoorNoteCom
import Derived.Test.YtgldgdopabmefaaGreatDoorChar
namespace Go.Proofs.YtgldgdopabmefaaGreatDoor
open Go.RowKit Go.Lib
set_option maxRecDepth 100000
set_option linter.unusedVariables false

theorem has_pre (s p : ByteArray) (t : List UInt8) (w : World) (hp : p.data.toList = t) :
    Calls Tryz.prog 63 #[.string s, .string p] w fun e w' => e = .returned (.bool (hasPrefix s.data.toList t)) ∧ w = w' :=
  (Tryz.strings_HasPrefix s p w).mono fun e w' ⟨h1, h2⟩ => ⟨by rw [h1, hp], h2.symm⟩
theorem cut_up (s p : ByteArray) (t : List UInt8) (w : World) (hW : NoteW w) (hs : s.size ≤ 1000000) (hp : p.data.toList = t) :
    Calls Tryz.prog 51 #[.string s, .string p] w fun e w' => (∃ b, e = .returned (.tuple #[.string (bs (Note.upTo s.data.toList t).1), .string (bs (s.data.toList.drop (Note.upTo s.data.toList t).2)), .bool b])) ∧ Below w.heap.size w w' := by
  obtain ⟨m, hm⟩ := hW.mx
  refine (Tryz.strings_Cut s p m w (by omega) hm).mono fun e w' ⟨h1, n, h2⟩ => ⟨?_, by rw [h2]; exact bel_drewN (Below.refl _ _) n⟩
  rw [hp, (Note.cut_upTo _ _).1, (Note.cut_upTo _ _).2] at h1
  exact ⟨_, h1⟩
set_option maxHeartbeats 1000000 in
theorem poor_any (s : ByteArray) (w : World) (h2 : 2 ≤ s.size) :
    Calls Tryz.prog 92 #[.string s] w fun e w' => e = .returned (.string (bs (s.data.toList.drop (Note.poorAt s.data.toList)))) ∧ w = w' := by
  have H := fun W => has_pre s ⟨#[60, 63]⟩ [60, 63] W rfl
  have e1 := drop_bs s 1
  have e2 := drop_bs s 2
  have E1 := hid e1
  have E2 := hid e2
  clear e1 e2
  have g1 : 1 ≤ s.size := by omega
  have g1I : (1 : Int) ≤ (s.size : Int) := by omega
  have g2I : (2 : Int) ≤ (s.size : Int) := by omega
  unfold Note.poorAt
  cases hc : hasPrefix s.data.toList [60, 63] with
  | true =>
    rw [hc] at H
    have H := hid H
    clear hc
    rw [if_pos rfl]
    go_enter Tryz.func92, Tryz.ntmps92
    go_wp2_with fail
    refine (H.out _).mono ?_
    rintro e w1 ⟨rfl, rfl⟩
    go_wp2
    go_ret
    exact ⟨by rw [← E1.out]; rfl, rfl⟩
  | false =>
    rw [hc] at H
    have H := hid H
    clear hc
    rw [if_neg (by decide)]
    go_enter Tryz.func92, Tryz.ntmps92
    go_wp2_with fail
    refine (H.out _).mono ?_
    rintro e w1 ⟨rfl, rfl⟩
    go_wp2
    go_ret
    exact ⟨by rw [← E2.out]; rfl, rfl⟩
set_option maxHeartbeats 1000000 in
theorem doctype_any (s : ByteArray) (w : World) (hs : s.size ≤ 1000000) :
    Calls Tryz.prog 91 #[.string s] w fun e w' => e = .returned (.bool (Note.doctypeB s.data.toList)) ∧ Below w.heap.size w w' := by
  have hsl := size_list s
  unfold Note.doctypeB
  by_cases h9 : 9 ≤ s.size
  · have g1 : (9 : Int) ≤ (s.size : Int) := by omega
    have d1 : decide ((9 : Int) ≤ (s.size : Int)) = true := decide_eq_true g1
    rw [decide_eq_true (by omega : 9 ≤ s.data.toList.length), Bool.true_and]
    have H := clower_any (s.extract 0 9) w (by rw [size_extract0 _ _ h9]; omega)
    rw [extract_list] at H
    obtain ⟨L, hL⟩ : ∃ L, lowL (s.data.toList.take 9) = L := ⟨_, rfl⟩
    rw [hL] at H ⊢
    obtain ⟨X, hX⟩ : ∃ X : ByteArray, (⟨L.toArray⟩ : ByteArray) = X := ⟨_, rfl⟩
    rw [hX] at H
    have hXl : X.toList = L := by rw [ByteArray.toList_eq, ← hX]
    have hb : decide (L = [60, 33, 100, 111, 99, 116, 121, 112, 101]) = (X.toList == [60, 33, 100, 111, 99, 116, 121, 112, 101]) := by
      rw [hXl, Bool.eq_iff_iff]
      simp
    rw [hb]
    have H := hid H
    clear hb hXl hX hL hsl
    go_enter Tryz.func91, Tryz.ntmps91
    go_wp2_with fail
    refine H.out.mono ?_
    rintro e w1 ⟨rfl, b1⟩
    go_wp2
    go_ret
    exact ⟨rfl, b1⟩
  · have d1 : decide ((9 : Int) ≤ (s.size : Int)) = false := decide_eq_false (by omega)
    rw [decide_eq_false (by omega : ¬ 9 ≤ s.data.toList.length), Bool.false_and]
    clear hsl
    go_enter Tryz.func91, Tryz.ntmps91
    go_wp2
    go_ret
    exact ⟨rfl, Below.refl _ _⟩
theorem cut_yes {s p : ByteArray} {t : List UInt8} {n : Nat} (h : hasPrefix s.data.toList t = true) (hp : p.data.toList = t) (hn : t.length = n) (W : World) :
    Calls Tryz.prog 56 #[.string s, .string p] W fun e w' => e = .returned (.tuple #[.string (bs (s.data.toList.drop n)), .bool true]) ∧ W = w' :=
  (pre_cut s p t W hp).mono fun e w' ⟨h1, h2⟩ => ⟨by rw [h1, trimPrefix, h, if_pos rfl, hn], h2⟩
theorem cut_no {s p : ByteArray} {t : List UInt8} (h : hasPrefix s.data.toList t = false) (hp : p.data.toList = t) (W : World) :
    Calls Tryz.prog 56 #[.string s, .string p] W fun e w' => e = .returned (.tuple #[.string s, .bool false]) ∧ W = w' :=
  (pre_cut s p t W hp).mono fun e w' ⟨h1, h2⟩ => ⟨by rw [h1, trimPrefix, h, if_neg (by decide), bs_same], h2⟩
theorem bs_size (l : List UInt8) : (bs l).size = l.length := size_eq _
/-- What 'first' tells. -/
def firstV (l : List UInt8) (f : Nat × List UInt8 × Nat) : Value := .tuple #[.int .u8 f.1, .string (bs f.2.1), .string (bs (l.drop f.2.2))]
set_option maxHeartbeats 2000000 in
theorem first_note (s : ByteArray) (cd : Bool) (w : World) (hW : NoteW w) (hs : s.size ≤ 1000000) (h1 : hasPrefix s.data.toList [60, 33, 45, 45] = true) :
    Calls Tryz.prog 64 #[.string s, .bool cd] w fun e w' => e = .returned (firstV s.data.toList (4, (Note.comment (s.data.toList.drop 4)).1, 4 + (Note.comment (s.data.toList.drop 4)).2)) ∧ Below w.heap.size w w' := by
  have P := cut_yes (p := ⟨#[60, 33, 45, 45]⟩) h1 rfl (n := 4) rfl
  have C := fun W hW => comment_any (bs (s.data.toList.drop 4)) W hW (by rw [bs_size, List.length_drop, size_list]; omega)
  rw [show (bs (s.data.toList.drop 4)).data.toList = s.data.toList.drop 4 from rfl] at C
  generalize Note.comment (s.data.toList.drop 4) = R at *
  obtain ⟨Y, hY⟩ : ∃ Y, bs ((s.data.toList.drop 4).drop R.2) = Y := ⟨_, rfl⟩
  unfold comV at C
  rw [hY] at C
  have HY : bs (s.data.toList.drop (4 + R.2)) = Y := by rw [← hY, List.drop_drop]
  obtain ⟨X, hX⟩ : ∃ X, bs (s.data.toList.drop 4) = X := ⟨_, rfl⟩
  rw [hX] at P C
  unfold firstV
  rw [HY]
  generalize bs R.1 = Z at *
  have P := hid P
  have C := hid C
  have HW := hid hW
  clear hW h1 hX hY HY
  go_enter Tryz.func64, Tryz.ntmps64
  go_wp2_with fail
  refine (P.out _).mono ?_
  rintro e w1 ⟨rfl, rfl⟩
  go_wp2_with fail
  refine (C.out _ HW.out).mono ?_
  rintro e w1 ⟨rfl, b1⟩
  go_wp2
  go_returns
  exact ⟨rfl, b1⟩
set_option maxHeartbeats 2000000 in
theorem first_doc (s : ByteArray) (cd : Bool) (w : World) (hW : NoteW w) (hs : s.size ≤ 1000000) (h1 : hasPrefix s.data.toList [60, 33, 45, 45] = false) (h2 : Note.doctypeB s.data.toList = true) :
    Calls Tryz.prog 64 #[.string s, .bool cd] w fun e w' => e = .returned (firstV s.data.toList (5, [], (Note.upTo s.data.toList [62]).2)) ∧ Below w.heap.size w w' := by
  have P := cut_no (p := ⟨#[60, 33, 45, 45]⟩) h1 rfl
  have D := fun W => doctype_any s W hs
  rw [h2] at D
  have C := fun W hW => cut_up s ⟨#[62]⟩ [62] W hW hs rfl
  unfold firstV
  generalize Note.upTo s.data.toList [62] = R at *
  obtain ⟨Y, hY⟩ : ∃ Y, bs (s.data.toList.drop R.2) = Y := ⟨_, rfl⟩
  simp only [hY] at C ⊢
  obtain ⟨Z, hZ⟩ : ∃ Z, bs R.1 = Z := ⟨_, rfl⟩
  simp only [hZ] at C
  have P := hid P
  have D := hid D
  have C := hid C
  have HW := hid hW
  clear hW h1 h2 hY hZ
  go_enter Tryz.func64, Tryz.ntmps64
  go_wp2_with fail
  refine (P.out _).mono ?_
  rintro e w1 ⟨rfl, rfl⟩
  go_wp2_with fail
  refine (D.out _).mono ?_
  rintro e w1 ⟨rfl, b1⟩
  have HW1 := hid (note_below HW.out b1)
  go_wp2_with fail
  refine (C.out _ HW1.out).mono ?_
  rintro e w2 ⟨⟨b, rfl⟩, b2⟩
  have B2 := hid (b1.trans (b2.mono b1.size))
  clear b1 b2
  go_wp2
  go_returns
  exact ⟨rfl, B2.out⟩
set_option maxHeartbeats 2000000 in
theorem first_data (s : ByteArray) (w : World) (hW : NoteW w) (hs : s.size ≤ 1000000) (h1 : hasPrefix s.data.toList [60, 33, 45, 45] = false) (h2 : Note.doctypeB s.data.toList = false) (h3 : hasPrefix s.data.toList [60, 33, 91, 67, 68, 65, 84, 65, 91] = true) :
    Calls Tryz.prog 64 #[.string s, .bool true] w fun e w' => e = .returned (firstV s.data.toList (1, (Note.upTo (s.data.toList.drop 9) [93, 93, 62]).1, 9 + (Note.upTo (s.data.toList.drop 9) [93, 93, 62]).2)) ∧ Below w.heap.size w w' := by
  have P := cut_no (p := ⟨#[60, 33, 45, 45]⟩) h1 rfl
  have D := fun W => doctype_any s W hs
  rw [h2] at D
  have Q := cut_yes (p := ⟨#[60, 33, 91, 67, 68, 65, 84, 65, 91]⟩) h3 rfl (n := 9) rfl
  have C := fun W hW => cut_up (bs (s.data.toList.drop 9)) ⟨#[93, 93, 62]⟩ [93, 93, 62] W hW (by rw [bs_size, List.length_drop, size_list]; omega) rfl
  rw [show (bs (s.data.toList.drop 9)).data.toList = s.data.toList.drop 9 from rfl] at C
  unfold firstV
  generalize Note.upTo (s.data.toList.drop 9) [93, 93, 62] = R at *
  obtain ⟨Y, hY⟩ : ∃ Y, bs ((s.data.toList.drop 9).drop R.2) = Y := ⟨_, rfl⟩
  have HY : bs (s.data.toList.drop (9 + R.2)) = Y := by rw [← hY, List.drop_drop]
  simp only [hY] at C
  simp only [HY]
  obtain ⟨X, hX⟩ : ∃ X, bs (s.data.toList.drop 9) = X := ⟨_, rfl⟩
  rw [hX] at C Q
  generalize bs R.1 = Z at *
  have P := hid P
  have D := hid D
  have C := hid C
  have Q := hid Q
  have HW := hid hW
  clear hW h1 h2 h3 hY hX HY
  go_enter Tryz.func64, Tryz.ntmps64
  go_wp2_with fail
  refine (P.out _).mono ?_
  rintro e w1 ⟨rfl, rfl⟩
  go_wp2_with fail
  refine (D.out _).mono ?_
  rintro e w1 ⟨rfl, b1⟩
  have HW1 := hid (note_below HW.out b1)
  go_wp2_with fail
  refine (Q.out _).mono ?_
  rintro e w2 ⟨rfl, rfl⟩
  go_wp2_with fail
  refine (C.out _ HW1.out).mono ?_
  rintro e w2 ⟨⟨b, rfl⟩, b2⟩
  have B2 := hid (b1.trans (b2.mono b1.size))
  clear b1 b2
  go_wp2
  go_returns
  exact ⟨rfl, B2.out⟩
set_option maxHeartbeats 4000000 in
theorem first_rest (s : ByteArray) (cd : Bool) (w : World) (hW : NoteW w) (hs : s.size ≤ 1000000) (hs2 : 2 ≤ s.size) (h1 : hasPrefix s.data.toList [60, 33, 45, 45] = false) (h2 : Note.doctypeB s.data.toList = false) (h3 : (hasPrefix s.data.toList [60, 33, 91, 67, 68, 65, 84, 65, 91] && cd) = false) :
    Calls Tryz.prog 64 #[.string s, .bool cd] w fun e w' => e = .returned (firstV s.data.toList (if hasPrefix s.data.toList [60, 47, 62] = true then (0, [], 3) else (4, (Note.upTo (s.data.toList.drop (Note.poorAt s.data.toList)) [62]).1, Note.poorAt s.data.toList + (Note.upTo (s.data.toList.drop (Note.poorAt s.data.toList)) [62]).2))) ∧ Below w.heap.size w w' := by
  have P := cut_no (p := ⟨#[60, 33, 45, 45]⟩) h1 rfl
  have D := fun W => doctype_any s W hs
  rw [h2] at D
  have Q : ∃ (x : ByteArray) (b : Bool), (b && cd) = false ∧ ∀ W, Calls Tryz.prog 56 #[.string s, .string ⟨#[60, 33, 91, 67, 68, 65, 84, 65, 91]⟩] W fun e w' => e = .returned (.tuple #[.string x, .bool b]) ∧ W = w' :=
    ⟨_, _, h3, fun W => pre_cut s ⟨#[60, 33, 91, 67, 68, 65, 84, 65, 91]⟩ [60, 33, 91, 67, 68, 65, 84, 65, 91] W rfl⟩
  obtain ⟨x, b, hb, Q⟩ := Q
  have P := hid P
  have D := hid D
  have Q := hid Q
  have HW := hid hW
  clear hW h1 h2 h3
  cases h4 : hasPrefix s.data.toList [60, 47, 62] with
  | true =>
    have E := cut_yes (p := ⟨#[60, 47, 62]⟩) h4 rfl (n := 3) rfl
    rw [if_pos rfl]
    unfold firstV
    obtain ⟨Y, hY⟩ : ∃ Y, bs (s.data.toList.drop 3) = Y := ⟨_, rfl⟩
    simp only [hY] at E ⊢
    have E := hid E
    clear h4 hY
    cases b with
    | true =>
      obtain rfl : cd = false := by simpa using hb
      clear hb
      go_enter Tryz.func64, Tryz.ntmps64
      go_wp2_with fail
      refine (P.out _).mono ?_
      rintro e w1 ⟨rfl, rfl⟩
      go_wp2_with fail
      refine (D.out _).mono ?_
      rintro e w1 ⟨rfl, b1⟩
      go_wp2_with fail
      refine (Q.out _).mono ?_
      rintro e w2 ⟨rfl, rfl⟩
      go_wp2_with fail
      refine (E.out _).mono ?_
      rintro e w2 ⟨rfl, rfl⟩
      go_wp2
      go_returns
      exact ⟨rfl, b1⟩
    | false =>
      clear hb
      go_enter Tryz.func64, Tryz.ntmps64
      go_wp2_with fail
      refine (P.out _).mono ?_
      rintro e w1 ⟨rfl, rfl⟩
      go_wp2_with fail
      refine (D.out _).mono ?_
      rintro e w1 ⟨rfl, b1⟩
      go_wp2_with fail
      refine (Q.out _).mono ?_
      rintro e w2 ⟨rfl, rfl⟩
      go_wp2_with fail
      refine (E.out _).mono ?_
      rintro e w2 ⟨rfl, rfl⟩
      go_wp2
      go_returns
      exact ⟨rfl, b1⟩
  | false =>
    have E := cut_no (p := ⟨#[60, 47, 62]⟩) h4 rfl
    have F := fun W => poor_any s W hs2
    rw [if_neg (by decide)]
    unfold firstV
    obtain ⟨o, ho⟩ : ∃ o, Note.poorAt s.data.toList = o := ⟨_, rfl⟩
    rw [ho] at F ⊢
    have C := fun W hW => cut_up (bs (s.data.toList.drop o)) ⟨#[62]⟩ [62] W hW (by rw [bs_size, List.length_drop, size_list]; omega) rfl
    rw [show (bs (s.data.toList.drop o)).data.toList = s.data.toList.drop o from rfl] at C
    generalize Note.upTo (s.data.toList.drop o) [62] = R at *
    obtain ⟨Y, hY⟩ : ∃ Y, bs ((s.data.toList.drop o).drop R.2) = Y := ⟨_, rfl⟩
    have HY : bs (s.data.toList.drop (o + R.2)) = Y := by rw [← hY, List.drop_drop]
    simp only [hY] at C
    simp only [HY]
    obtain ⟨X, hX⟩ : ∃ X, bs (s.data.toList.drop o) = X := ⟨_, rfl⟩
    rw [hX] at C F
    generalize bs R.1 = Z at *
    have E := hid E
    have F := hid F
    have C := hid C
    clear h4 hY HY hX ho
    cases b with
    | true =>
      obtain rfl : cd = false := by simpa using hb
      clear hb
      go_enter Tryz.func64, Tryz.ntmps64
      go_wp2_with fail
      refine (P.out _).mono ?_
      rintro e w1 ⟨rfl, rfl⟩
      go_wp2_with fail
      refine (D.out _).mono ?_
      rintro e w1 ⟨rfl, b1⟩
      have HW1 := hid (note_below HW.out b1)
      go_wp2_with fail
      refine (Q.out _).mono ?_
      rintro e w2 ⟨rfl, rfl⟩
      go_wp2_with fail
      refine (E.out _).mono ?_
      rintro e w2 ⟨rfl, rfl⟩
      go_wp2_with fail
      refine (F.out _).mono ?_
      rintro e w2 ⟨rfl, rfl⟩
      go_wp2_with fail
      refine (C.out _ HW1.out).mono ?_
      rintro e w3 ⟨⟨b, rfl⟩, b2⟩
      have B2 := hid (b1.trans (b2.mono b1.size))
      clear b1 b2
      go_wp2
      go_returns
      exact ⟨rfl, B2.out⟩
    | false =>
      clear hb
      go_enter Tryz.func64, Tryz.ntmps64
      go_wp2_with fail
      refine (P.out _).mono ?_
      rintro e w1 ⟨rfl, rfl⟩
      go_wp2_with fail
      refine (D.out _).mono ?_
      rintro e w1 ⟨rfl, b1⟩
      have HW1 := hid (note_below HW.out b1)
      go_wp2_with fail
      refine (Q.out _).mono ?_
      rintro e w2 ⟨rfl, rfl⟩
      go_wp2_with fail
      refine (E.out _).mono ?_
      rintro e w2 ⟨rfl, rfl⟩
      go_wp2_with fail
      refine (F.out _).mono ?_
      rintro e w2 ⟨rfl, rfl⟩
      go_wp2_with fail
      refine (C.out _ HW1.out).mono ?_
      rintro e w3 ⟨⟨b, rfl⟩, b2⟩
      have B2 := hid (b1.trans (b2.mono b1.size))
      clear b1 b2
      go_wp2
      go_returns
      exact ⟨rfl, B2.out⟩
theorem first_any (s : ByteArray) (cd : Bool) (w : World) (hW : NoteW w) (hs : s.size ≤ 1000000) (hs2 : 2 ≤ s.size) :
    Calls Tryz.prog 64 #[.string s, .bool cd] w fun e w' => e = .returned (firstV s.data.toList (Note.first s.data.toList cd)) ∧ Below w.heap.size w w' := by
  unfold Note.first
  cases h1 : hasPrefix s.data.toList [60, 33, 45, 45] with
  | true => rw [if_pos rfl]; exact first_note s cd w hW hs h1
  | false =>
    rw [if_neg (by decide)]
    cases h2 : Note.doctypeB s.data.toList with
    | true => rw [if_pos rfl]; exact first_doc s cd w hW hs h1 h2
    | false =>
      rw [if_neg (by decide)]
      cases h3 : (hasPrefix s.data.toList [60, 33, 91, 67, 68, 65, 84, 65, 91] && cd) with
      | true =>
        rw [if_pos rfl]
        obtain ⟨h4, h5⟩ := Bool.and_eq_true_iff.1 h3
        subst h5
        exact first_data s w hW hs h1 h2 h4
      | false =>
        rw [if_neg (by decide)]
        exact first_rest s cd w hW hs hs2 h1 h2 h3
end Go.Proofs.YtgldgdopabmefaaGreatDoor
