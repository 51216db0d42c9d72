/- Walks: the statements' head of layer 7, 'known': the chapter's examples; NoteReads, as a contract: NoteAll calls it. -/
import Derived.Test.YtinioghpghcdiaaDoorNoteRead
import Derived.Test.YtinioghpghcdiaaDoorRefNoteD
namespace Go.Proofs.YtinioghpghcdiaaDoor
open Go.RowKit Go.Lib
set_option maxRecDepth 100000
set_option linter.unusedVariables false

theorem nk_at {s : ByteArray} {cd : Bool} {K : Nat} {t : List UInt8} {m : Nat} (w : World) (hW : NoteW w) (hs : s.size ≤ 1000000) (hb : begNI s.data.toList 0 = true) (hf : Note.first s.data.toList cd = (K, t, m)) :
    Calls Tryd.prog 7 #[.string s, .int .i64 0, .bool cd] w fun e w' => e = .returned (.tuple #[.agg #[.int .u8 K, .string ⟨#[]⟩, .slice none 0 0, .bool false, .string (bs t)], .int .i64 m]) ∧ Below w.heap.size w w' :=
  (nread_any s 0 cd w hW hs (by omega)).mono fun e w' ⟨h1, h2⟩ => ⟨by
    have hv := noteV_yes (n := 0) hb hf
    rw [h1, show (0 : Int) = ((0 : Nat) : Int) from rfl, hv, show (((0 : Nat) : Int) + (m : Int)) = (m : Int) by omega], h2⟩
theorem nk_one (w : World) (hW : NoteW w) : Calls Tryd.prog 7 #[.string ⟨#[60, 33, 45, 45, 97, 45, 45, 33, 62, 98]⟩, .int .i64 0, .bool false] w fun e w' => e = .returned (.tuple #[.agg #[.int .u8 4, .string ⟨#[]⟩, .slice none 0 0, .bool false, .string ⟨#[97]⟩], .int .i64 9]) ∧ Below w.heap.size w w' :=
  nk_at (s := ⟨#[60, 33, 45, 45, 97, 45, 45, 33, 62, 98]⟩) (K := 4) (t := [97]) (m := 9) w hW (by decide) (by decide +kernel) (by decide +kernel)
theorem nk_two (w : World) (hW : NoteW w) : Calls Tryd.prog 7 #[.string ⟨#[60, 33, 91, 67, 68, 65, 84, 65, 91, 120, 93, 93, 62]⟩, .int .i64 0, .bool true] w fun e w' => e = .returned (.tuple #[.agg #[.int .u8 1, .string ⟨#[]⟩, .slice none 0 0, .bool false, .string ⟨#[120]⟩], .int .i64 13]) ∧ Below w.heap.size w w' :=
  nk_at (s := ⟨#[60, 33, 91, 67, 68, 65, 84, 65, 91, 120, 93, 93, 62]⟩) (K := 1) (t := [120]) (m := 13) w hW (by decide) (by decide +kernel) (by decide +kernel)
theorem nk_three (w : World) (hW : NoteW w) : Calls Tryd.prog 7 #[.string ⟨#[60, 47, 62]⟩, .int .i64 0, .bool false] w fun e w' => e = .returned (.tuple #[.agg #[.int .u8 0, .string ⟨#[]⟩, .slice none 0 0, .bool false, .string ⟨#[]⟩], .int .i64 3]) ∧ Below w.heap.size w w' :=
  nk_at (s := ⟨#[60, 47, 62]⟩) (K := 0) (t := []) (m := 3) w hW (by decide) (by decide +kernel) (by decide +kernel)
theorem nk_four (w : World) (hW : NoteW w) : Calls Tryd.prog 7 #[.string ⟨#[60, 33, 68, 111, 99, 84, 121, 112, 101, 32, 120, 62]⟩, .int .i64 0, .bool false] w fun e w' => e = .returned (.tuple #[.agg #[.int .u8 5, .string ⟨#[]⟩, .slice none 0 0, .bool false, .string ⟨#[]⟩], .int .i64 12]) ∧ Below w.heap.size w w' :=
  nk_at (s := ⟨#[60, 33, 68, 111, 99, 84, 121, 112, 101, 32, 120, 62]⟩) (K := 5) (t := []) (m := 12) w hW (by decide) (by decide +kernel) (by decide +kernel)
theorem nk_five (w : World) : Calls Tryd.prog 11 #[.string ⟨#[60, 63]⟩, .int .i64 0] w fun e w' => e = .returned (.bool true) ∧ w = w' :=
  (nbegins_any ⟨#[60, 63]⟩ 0 w (by decide) (by decide)).mono fun e w' ⟨h1, h2⟩ => ⟨by rw [h1, show begNI (⟨#[60, 63]⟩ : ByteArray).data.toList 0 = true by decide +kernel], h2⟩
theorem nk_six (w : World) : Calls Tryd.prog 11 #[.string ⟨#[60, 47, 97]⟩, .int .i64 0] w fun e w' => e = .returned (.bool false) ∧ w = w' :=
  (nbegins_any ⟨#[60, 47, 97]⟩ 0 w (by decide) (by decide)).mono fun e w' ⟨h1, h2⟩ => ⟨by rw [h1, show begNI (⟨#[60, 47, 97]⟩ : ByteArray).data.toList 0 = false by decide +kernel], h2⟩
/-- A block that is known whole, beside a world above the first one. -/
theorem more_blk {w W V : World} {g : Nat} {cs : Array Value} {t : TypeId} (h : BlkW W g cs t) (hb : Below W.heap.size W V) (o : Obj) : BlkW (V.alloc o) g cs t := (h.below hb h.lt).alloc o
set_option maxHeartbeats 4000000 in
theorem known7_any (w : World) (hT : NoteW w) : Calls Tryd.prog 9 #[] w fun e w' => e = .returned (.bool true) ∧ Below w.heap.size w w' := by
  have HT := hid hT
  clear hT
  go_enter Tryd.func9, Tryd.ntmps9
  go_wp2_with fail
  refine (nk_one _ HT.out).mono ?_
  rintro e w1 ⟨rfl, b1⟩
  have Z1 := hid (BlkW.new w1 #[.int .u8 4, .string ⟨#[]⟩, .slice none 0 0, .bool false, .string ⟨#[97]⟩] 24)
  have B1 := hid (b1.alloc b1.size (.cells #[.int .u8 4, .string ⟨#[]⟩, .slice none 0 0, .bool false, .string ⟨#[97]⟩] 24))
  have HT1 := hid (note_below HT.out B1.out)
  clear b1
  go_wp2_with fail
  refine (nk_two _ HT1.out).mono ?_
  rintro e w2 ⟨rfl, b2⟩
  have Y1 := hid (more_blk (w := w) Z1.out b2 (.cells #[.int .u8 1, .string ⟨#[]⟩, .slice none 0 0, .bool false, .string ⟨#[120]⟩] 24))
  have Y2 := hid (BlkW.new w2 #[.int .u8 1, .string ⟨#[]⟩, .slice none 0 0, .bool false, .string ⟨#[120]⟩] 24)
  have B2 := hid ((B1.out.trans (b2.mono B1.out.size)).alloc (B1.out.trans (b2.mono B1.out.size)).size (.cells #[.int .u8 1, .string ⟨#[]⟩, .slice none 0 0, .bool false, .string ⟨#[120]⟩] 24))
  have HT2 := hid (note_below HT.out B2.out)
  clear b2 Z1 HT1 B1
  go_wp2_with fail
  refine (nk_three _ HT2.out).mono ?_
  rintro e w3 ⟨rfl, b3⟩
  have X1 := hid (more_blk (w := w) Y1.out b3 (.cells #[.int .u8 0, .string ⟨#[]⟩, .slice none 0 0, .bool false, .string ⟨#[]⟩] 24))
  have X2 := hid (more_blk (w := w) Y2.out b3 (.cells #[.int .u8 0, .string ⟨#[]⟩, .slice none 0 0, .bool false, .string ⟨#[]⟩] 24))
  have X3 := hid (BlkW.new w3 #[.int .u8 0, .string ⟨#[]⟩, .slice none 0 0, .bool false, .string ⟨#[]⟩] 24)
  have B3 := hid ((B2.out.trans (b3.mono B2.out.size)).alloc (B2.out.trans (b3.mono B2.out.size)).size (.cells #[.int .u8 0, .string ⟨#[]⟩, .slice none 0 0, .bool false, .string ⟨#[]⟩] 24))
  have HT3 := hid (note_below HT.out B3.out)
  clear b3 Y1 Y2 HT2 B2
  go_wp2_with fail
  refine (nk_four _ HT3.out).mono ?_
  rintro e w4 ⟨rfl, b4⟩
  have V1 := more_blk (w := w) X1.out b4 (.cells #[.int .u8 5, .string ⟨#[]⟩, .slice none 0 0, .bool false, .string ⟨#[]⟩] 24)
  have V2 := more_blk (w := w) X2.out b4 (.cells #[.int .u8 5, .string ⟨#[]⟩, .slice none 0 0, .bool false, .string ⟨#[]⟩] 24)
  have V3 := more_blk (w := w) X3.out b4 (.cells #[.int .u8 5, .string ⟨#[]⟩, .slice none 0 0, .bool false, .string ⟨#[]⟩] 24)
  have V4 := BlkW.new w4 #[.int .u8 5, .string ⟨#[]⟩, .slice none 0 0, .bool false, .string ⟨#[]⟩] 24
  have B4 := hid ((B3.out.trans (b4.mono B3.out.size)).alloc (B3.out.trans (b4.mono B3.out.size)).size (.cells #[.int .u8 5, .string ⟨#[]⟩, .slice none 0 0, .bool false, .string ⟨#[]⟩] 24))
  have p0 := V1.cell 0
  have p4 := V1.cell 4
  have q0 := V2.cell 0
  have q4 := V2.cell 4
  have r0 := V3.cell 0
  have t0 := V4.cell 0
  simp only [List.getElem?_toArray, List.getElem?_cons_zero, List.getElem?_cons_succ] at p0 p4 q0 q4 r0 t0
  clear b4 X1 X2 X3 V1 V2 V3 V4 HT3 B3
  go_wp2_with fail
  refine (nk_five _).mono ?_
  rintro e w5 ⟨rfl, rfl⟩
  go_wp2_with fail
  refine (nk_six _).mono ?_
  rintro e w5 ⟨rfl, rfl⟩
  go_wp2
  go_ret
  exact ⟨rfl, B4.out⟩
theorem noteV_form (l : List UInt8) (i : Int) (cd : Bool) : ∃ (K : Nat) (t : List UInt8) (m : Int), noteV l i cd = .tuple #[tokV K [] none 0 0 false t, .int .i64 m] := by
  unfold noteV
  split
  · exact ⟨_, _, _, rfl⟩
  · exact ⟨_, _, _, rfl⟩
set_option maxHeartbeats 4000000 in
theorem nreads_any (s : ByteArray) (i : Int) (cd : Bool) (w : World) (hT : NoteW w) (hi : -9223372036854775808 ≤ i ∧ i ≤ 9223372036854775807) (ws : s.size ≤ maxLen) :
    Calls Tryd.prog 3 #[.string s, .int .i64 i, .bool cd] w fun e w' => e = .returned (.bool true) ∧ Below w.heap.size w w' := by
  unfold maxLen at ws
  have HT := hid hT
  by_cases hs : 3000 < s.size
  · have hd : decide ((3000 : Int) < (s.size : Int)) = true := by simp; omega
    clear hT
    go_enter Tryd.func3, Tryd.ntmps3
    go_wp2
    go_ret
    exact ⟨rfl, Below.refl _ _⟩
  have hd : decide ((3000 : Int) < (s.size : Int)) = false := by simp; omega
  have H1 := fun W h => nread_any s i cd W h (by omega) hi
  have H2 := fun W => rnread_any s i cd W (by omega) hi
  obtain ⟨K, t, m, hE⟩ := noteV_form s.data.toList i cd
  rw [hE] at H1 H2
  have H3 := fun W => nbegins_any s i W (by omega) hi
  have H4 := fun W => rnbegins_any s i W (by omega) hi
  rw [show (decide (0 ≤ i) && Note.begB (s.data.toList.drop i.toNat)) = begNI s.data.toList i from rfl] at H4
  generalize begNI s.data.toList i = bg at *
  unfold tokV at H1 H2
  obtain ⟨X, hX⟩ : ∃ X, bs t = X := ⟨_, rfl⟩
  rw [hX] at H1 H2
  have HX := hid hX
  obtain ⟨E0, hE0⟩ : ∃ E0, bs [] = E0 := ⟨_, rfl⟩
  rw [hE0] at H1 H2
  have HE0 := hid hE0
  have H1 := hid H1
  have H2 := hid H2
  have H3 := hid H3
  have H4 := hid H4
  clear hT hE hX hE0
  go_enter Tryd.func3, Tryd.ntmps3
  go_wp2_with fail
  refine (H1.out _ HT.out).mono ?_
  rintro e w1 ⟨rfl, b1⟩
  have Z1 := hid (BlkW.new w1 #[.int .u8 K, .string E0, .slice none 0 0, .bool false, .string X] 24)
  have B1 := hid (b1.alloc b1.size (.cells #[.int .u8 K, .string E0, .slice none 0 0, .bool false, .string X] 24))
  clear b1
  go_wp2_with fail
  refine (H2.out _).mono ?_
  rintro e w2 ⟨rfl, b2⟩
  have Z2 := hid (more_blk (w := w) Z1.out b2 (.cells #[.int .u8 K, .string E0, .slice none 0 0, .bool false, .string X] 24))
  have Y2 := hid (BlkW.new w2 #[.int .u8 K, .string E0, .slice none 0 0, .bool false, .string X] 24)
  have B2 := hid ((B1.out.trans (b2.mono B1.out.size)).alloc (B1.out.trans (b2.mono B1.out.size)).size (.cells #[.int .u8 K, .string E0, .slice none 0 0, .bool false, .string X] 24))
  have HT2 := hid (note_below HT.out B2.out)
  have n1 : w1.heap.size ≠ w2.heap.size := by have := Z1.out.lt; have := b2.size; omega
  clear b2 Z1 B1
  go_wp2_with fail
  refine (known7_any _ HT2.out).mono ?_
  rintro e w3 ⟨rfl, b3⟩
  have Z3 := Z2.out.below b3 Z2.out.lt
  have Y3 := Y2.out.below b3 Y2.out.lt
  have B3 := hid (B2.out.trans (b3.mono B2.out.size))
  have p0 := Z3.cell 0
  have p1 := Z3.cell 1
  have p2 := Z3.cell 2
  have p3 := Z3.cell 3
  have p4 := Z3.cell 4
  have q0 := Y3.cell 0
  have q1 := Y3.cell 1
  have q2 := Y3.cell 2
  have q3 := Y3.cell 3
  have q4 := Y3.cell 4
  simp only [List.getElem?_toArray, List.getElem?_cons_zero, List.getElem?_cons_succ] at p0 p1 p2 p3 p4 q0 q1 q2 q3 q4
  clear b3 Z2 Y2 Z3 Y3 B2 HT2
  go_wp2_with fail
  have S := sameTok_any K [] false t [] none 0 0 none 0 0 w3 ⟨rfl, .inl rfl⟩ ⟨rfl, .inl rfl⟩ (by omega) (by omega)
  unfold tokV at S
  rw [HX.out, HE0.out] at S
  refine S.mono ?_
  rintro e w4 ⟨rfl, b4⟩
  have B5 := hid (B3.out.trans (b4.mono B3.out.size))
  clear b4 p0 p1 p2 p3 p4 q0 q1 q2 q3 q4
  go_wp2_with fail
  refine (H3.out _).mono ?_
  rintro e w5 ⟨rfl, rfl⟩
  go_wp2_with fail
  refine (H4.out _).mono ?_
  rintro e w5 ⟨rfl, rfl⟩
  go_wp2
  go_ret
  exact ⟨ret_bool' (by simp), B5.out⟩
end Go.Proofs.YtinioghpghcdiaaDoor
