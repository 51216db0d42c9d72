/- Walks: package note: what its variables hold; a comment that nothing ends. -/
import Derived.Test.YtgldgdopabmefaaDoorNotePl
import Derived.Test.YtgldgdopabmefaaDoorClsDig
import Derived.Test.YtgldgdopabmefaaDoorAppT
namespace Go.Proofs.YtgldgdopabmefaaDoor
open Go.RowKit Go.Lib
set_option maxRecDepth 100000
set_option linter.unusedVariables false

/-- What package note's variables hold, and that a variable of the library's own holds some number. -/
structure NoteW (w : World) : Prop where
  mx : MaxCell w
  s0 : w.cell? ⟨2, 0, none⟩ = some (.string ⟨#[62]⟩)
  s1 : w.cell? ⟨2, 1, none⟩ = some (.string ⟨#[45, 62]⟩)
  c0 : w.cell? ⟨3, 0, none⟩ = some (.string ⟨#[45, 45]⟩)
  c1 : w.cell? ⟨3, 1, none⟩ = some (.string ⟨#[45, 45, 33]⟩)
  l0 : w.cell? ⟨4, 0, none⟩ = some (.string ⟨#[45, 45, 33]⟩)
  l1 : w.cell? ⟨4, 1, none⟩ = some (.string ⟨#[45, 45]⟩)
  l2 : w.cell? ⟨4, 2, none⟩ = some (.string ⟨#[45]⟩)
theorem cell_below {w w' : World} {a : Addr} {v : Value} (h : w.cell? a = some v) (hb : Below w.heap.size w w') : w'.cell? a = some v := (hb.cell (World.block_lt_of_cell? _ _ h)).trans h
theorem note_below {w w' : World} (h : NoteW w) (hb : Below w.heap.size w w') : NoteW w' :=
  ⟨max_below h.mx hb, cell_below h.s0 hb, cell_below h.s1 hb, cell_below h.c0 hb, cell_below h.c1 hb, cell_below h.l0 hb, cell_below h.l1 hb, cell_below h.l2 hb⟩

theorem l_idx0 (w : World) : (Instr.index 110 (.agg #[.string ⟨#[45, 45, 33]⟩, .string ⟨#[45, 45]⟩, .string ⟨#[45]⟩]) (.int .i64 0)).run Tryd.prog w = .ok (.string ⟨#[45, 45, 33]⟩) w := by kernel_rfl
theorem l_idx1 (w : World) : (Instr.index 110 (.agg #[.string ⟨#[45, 45, 33]⟩, .string ⟨#[45, 45]⟩, .string ⟨#[45]⟩]) (.int .i64 1)).run Tryd.prog w = .ok (.string ⟨#[45, 45]⟩) w := by kernel_rfl
theorem l_idx2 (w : World) : (Instr.index 110 (.agg #[.string ⟨#[45, 45, 33]⟩, .string ⟨#[45, 45]⟩, .string ⟨#[45]⟩]) (.int .i64 2)).run Tryd.prog w = .ok (.string ⟨#[45]⟩) w := by kernel_rfl
theorem bs_same (s : ByteArray) : bs s.data.toList = s := by
  apply ByteArray.ext
  apply Array.ext'
  rfl
theorem suf_cut (s p : ByteArray) (t : List UInt8) (w : World) (hs : s.size ≤ 9223372036854775807) (hp : p.data.toList = t) :
    Calls Tryd.prog 76 #[.string s, .string p] w fun e w' => e = .returned (.tuple #[.string (bs (trimSuffix s.data.toList t)), .bool (hasSuffix s.data.toList t)]) ∧ w = w' :=
  (Tryd.strings_CutSuffix s p w hs).mono fun e w' ⟨h1, h2⟩ => ⟨by rw [h1, hp]; rfl, h2.symm⟩
set_option maxHeartbeats 1000000 in
theorem bare_any (s : ByteArray) (w : World) (hW : NoteW w) (hs : s.size ≤ 9223372036854775807) :
    Calls Tryd.prog 77 #[.string s] w fun e w' => e = .returned (.string (bs (Note.bare s.data.toList))) ∧ w = w' := by
  have l0 := hW.l0
  have l1 := hW.l1
  have l2 := hW.l2
  have H0 := fun W => suf_cut s ⟨#[45, 45, 33]⟩ [45, 45, 33] W hs rfl
  have H1 := fun W => suf_cut s ⟨#[45, 45]⟩ [45, 45] W hs rfl
  have H2 := fun W => suf_cut s ⟨#[45]⟩ [45] W hs rfl
  have i0 := l_idx0
  have i1 := l_idx1
  have i2 := l_idx2
  unfold Note.bare
  cases h0 : hasSuffix s.data.toList [45, 45, 33] with
  | true =>
    simp only [trimSuffix, h0, if_true, List.length_cons, List.length_nil] at H0
    have H0 := hid H0
    clear hW H1 H2 h0
    rw [if_pos rfl]
    go_enter Tryd.func77, Tryd.ntmps77
    go_wp2
    refine wp_loop_rounds 1 ?_
    rw [rounds_succ]
    go_wp2_with fail
    refine (H0.out _).mono ?_
    rintro e w9 ⟨rfl, rfl⟩
    go_wp2
    go_ret
    exact ⟨rfl, rfl⟩
  | false =>
    cases h1 : hasSuffix s.data.toList [45, 45] with
    | true =>
      simp only [trimSuffix, h0, Bool.false_eq_true, if_false] at H0
      simp only [trimSuffix, h1, if_true, List.length_cons, List.length_nil] at H1
      have H0 := hid H0
      have H1 := hid H1
      clear hW H2 h0 h1
      rw [if_neg (by decide)]
      rw [if_pos rfl]
      go_enter Tryd.func77, Tryd.ntmps77
      go_wp2
      refine wp_loop_rounds 2 ?_
      rw [rounds_succ]
      go_wp2_with fail
      refine (H0.out _).mono ?_
      rintro e w0 ⟨rfl, rfl⟩
      go_wp2
      rw [rounds_succ]
      go_wp2_with fail
      refine (H1.out _).mono ?_
      rintro e w9 ⟨rfl, rfl⟩
      go_wp2
      go_ret
      exact ⟨rfl, rfl⟩
    | false =>
      cases h2 : hasSuffix s.data.toList [45] with
      | true =>
        simp only [trimSuffix, h0, Bool.false_eq_true, if_false] at H0
        simp only [trimSuffix, h1, Bool.false_eq_true, if_false] at H1
        simp only [trimSuffix, h2, if_true, List.length_cons, List.length_nil] at H2
        have H0 := hid H0
        have H1 := hid H1
        have H2 := hid H2
        clear hW  h0 h1 h2
        rw [if_neg (by decide)]
        rw [if_neg (by decide)]
        rw [if_pos rfl]
        go_enter Tryd.func77, Tryd.ntmps77
        go_wp2
        refine wp_loop_rounds 3 ?_
        rw [rounds_succ]
        go_wp2_with fail
        refine (H0.out _).mono ?_
        rintro e w0 ⟨rfl, rfl⟩
        go_wp2
        rw [rounds_succ]
        go_wp2_with fail
        refine (H1.out _).mono ?_
        rintro e w1 ⟨rfl, rfl⟩
        go_wp2
        rw [rounds_succ]
        go_wp2_with fail
        refine (H2.out _).mono ?_
        rintro e w9 ⟨rfl, rfl⟩
        go_wp2
        go_ret
        exact ⟨rfl, rfl⟩
      | false =>
        simp only [trimSuffix, h0, Bool.false_eq_true, if_false] at H0
        simp only [trimSuffix, h1, Bool.false_eq_true, if_false] at H1
        simp only [trimSuffix, h2, Bool.false_eq_true, if_false] at H2
        have H0 := hid H0
        have H1 := hid H1
        have H2 := hid H2
        clear hW  h0 h1 h2
        rw [if_neg (by decide)]
        rw [if_neg (by decide)]
        rw [if_neg (by decide)]
        go_enter Tryd.func77, Tryd.ntmps77
        go_wp2
        refine wp_loop_rounds 4 ?_
        rw [rounds_succ]
        go_wp2_with fail
        refine (H0.out _).mono ?_
        rintro e w0 ⟨rfl, rfl⟩
        go_wp2
        rw [rounds_succ]
        go_wp2_with fail
        refine (H1.out _).mono ?_
        rintro e w1 ⟨rfl, rfl⟩
        go_wp2
        rw [rounds_succ]
        go_wp2_with fail
        refine (H2.out _).mono ?_
        rintro e w2 ⟨rfl, rfl⟩
        go_wp2
        rw [rounds_succ]
        go_wp2
        go_ret
        rw [bs_same]
        exact ⟨rfl, rfl⟩
end Go.Proofs.YtgldgdopabmefaaDoor
