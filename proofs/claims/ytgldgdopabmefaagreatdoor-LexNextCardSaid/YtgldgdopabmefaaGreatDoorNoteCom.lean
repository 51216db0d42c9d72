/- Walks: package note: what its variables hold; a comment that nothing ends. What the program's variables hold, of packages ent and note. What the rows of this seat share: the variables of packages ent and note out of the row's list; a number of the library's own out of the world's shape; a world that meets the list. Written by tools/gen_framel.py. Walks: package note: a comment, behind its beginning. -/
import Derived.Test.YtgldgdopabmefaaGreatDoorNotePl
import Derived.Test.YtgldgdopabmefaaGreatDoorRefHex
import Derived.Test.YtgldgdopabmefaaGreatDoorRawTag
import Derived.Test.YtgldgdopabmefaaGreatDoorEntProg
import Derived.Test.YtgldgdopabmefaaGreatDoorCards
import Derived.Test.YtgldgdopabmefaaGreatDoorTie
import Derived.ProofKit
import Derived.OpenShut
import Derived.ShutString
import Derived.ChangeOld
import Derived.Below
import Derived.Deep.DeepHandedRow
import Derived.Lib.LaidTab
import Derived.Shelf.Vars
import Derived.Deep.LoopGhost
import Derived.Handy
import Derived.IntWalk
namespace Go.Proofs.YtgldgdopabmefaaGreatDoor
open Go.RowKit Go.Lib
set_option maxRecDepth 100000
set_option linter.unusedVariables false

/-- What package note's variables hold, and that a variable of the library's own holds some number. -/
structure NoteW (w : World) : Prop where
  mx : MaxCell w
  s0 : w.cell? ⟨2, 0, none⟩ = some (.string ⟨#[62]⟩)
  s1 : w.cell? ⟨2, 1, none⟩ = some (.string ⟨#[45, 62]⟩)
  c0 : w.cell? ⟨3, 0, none⟩ = some (.string ⟨#[45, 45]⟩)
  c1 : w.cell? ⟨3, 1, none⟩ = some (.string ⟨#[45, 45, 33]⟩)
  l0 : w.cell? ⟨4, 0, none⟩ = some (.string ⟨#[45, 45, 33]⟩)
  l1 : w.cell? ⟨4, 1, none⟩ = some (.string ⟨#[45, 45]⟩)
  l2 : w.cell? ⟨4, 2, none⟩ = some (.string ⟨#[45]⟩)
theorem cell_below {w w' : World} {a : Addr} {v : Value} (h : w.cell? a = some v) (hb : Below w.heap.size w w') : w'.cell? a = some v := (hb.cell (World.block_lt_of_cell? _ _ h)).trans h
theorem note_below {w w' : World} (h : NoteW w) (hb : Below w.heap.size w w') : NoteW w' :=
  ⟨max_below h.mx hb, cell_below h.s0 hb, cell_below h.s1 hb, cell_below h.c0 hb, cell_below h.c1 hb, cell_below h.l0 hb, cell_below h.l1 hb, cell_below h.l2 hb⟩

theorem l_idx0 (w : World) : (Instr.index 128 (.agg #[.string ⟨#[45, 45, 33]⟩, .string ⟨#[45, 45]⟩, .string ⟨#[45]⟩]) (.int .i64 0)).run Tryz.prog w = .ok (.string ⟨#[45, 45, 33]⟩) w := by kernel_rfl
theorem l_idx1 (w : World) : (Instr.index 128 (.agg #[.string ⟨#[45, 45, 33]⟩, .string ⟨#[45, 45]⟩, .string ⟨#[45]⟩]) (.int .i64 1)).run Tryz.prog w = .ok (.string ⟨#[45, 45]⟩) w := by kernel_rfl
theorem l_idx2 (w : World) : (Instr.index 128 (.agg #[.string ⟨#[45, 45, 33]⟩, .string ⟨#[45, 45]⟩, .string ⟨#[45]⟩]) (.int .i64 2)).run Tryz.prog w = .ok (.string ⟨#[45]⟩) w := by kernel_rfl
theorem bs_same (s : ByteArray) : bs s.data.toList = s := by
  apply ByteArray.ext
  apply Array.ext'
  rfl
theorem suf_cut (s p : ByteArray) (t : List UInt8) (w : World) (hs : s.size ≤ 9223372036854775807) (hp : p.data.toList = t) :
    Calls Tryz.prog 108 #[.string s, .string p] w fun e w' => e = .returned (.tuple #[.string (bs (trimSuffix s.data.toList t)), .bool (hasSuffix s.data.toList t)]) ∧ w = w' :=
  (Tryz.strings_CutSuffix s p w hs).mono fun e w' ⟨h1, h2⟩ => ⟨by rw [h1, hp]; rfl, h2.symm⟩
set_option maxHeartbeats 1000000 in
theorem bare_any (s : ByteArray) (w : World) (hW : NoteW w) (hs : s.size ≤ 9223372036854775807) :
    Calls Tryz.prog 109 #[.string s] w fun e w' => e = .returned (.string (bs (Note.bare s.data.toList))) ∧ w = w' := by
  have l0 := hW.l0
  have l1 := hW.l1
  have l2 := hW.l2
  have H0 := fun W => suf_cut s ⟨#[45, 45, 33]⟩ [45, 45, 33] W hs rfl
  have H1 := fun W => suf_cut s ⟨#[45, 45]⟩ [45, 45] W hs rfl
  have H2 := fun W => suf_cut s ⟨#[45]⟩ [45] W hs rfl
  have i0 := l_idx0
  have i1 := l_idx1
  have i2 := l_idx2
  unfold Note.bare
  cases h0 : hasSuffix s.data.toList [45, 45, 33] with
  | true =>
    simp only [trimSuffix, h0, if_true, List.length_cons, List.length_nil] at H0
    have H0 := hid H0
    clear hW H1 H2 h0
    rw [if_pos rfl]
    go_enter Tryz.func109, Tryz.ntmps109
    go_wp2
    refine wp_loop_rounds 1 ?_
    rw [rounds_succ]
    go_wp2_with fail
    refine (H0.out _).mono ?_
    rintro e w9 ⟨rfl, rfl⟩
    go_wp2
    go_ret
    exact ⟨rfl, rfl⟩
  | false =>
    cases h1 : hasSuffix s.data.toList [45, 45] with
    | true =>
      simp only [trimSuffix, h0, Bool.false_eq_true, if_false] at H0
      simp only [trimSuffix, h1, if_true, List.length_cons, List.length_nil] at H1
      have H0 := hid H0
      have H1 := hid H1
      clear hW H2 h0 h1
      rw [if_neg (by decide)]
      rw [if_pos rfl]
      go_enter Tryz.func109, Tryz.ntmps109
      go_wp2
      refine wp_loop_rounds 2 ?_
      rw [rounds_succ]
      go_wp2_with fail
      refine (H0.out _).mono ?_
      rintro e w0 ⟨rfl, rfl⟩
      go_wp2
      rw [rounds_succ]
      go_wp2_with fail
      refine (H1.out _).mono ?_
      rintro e w9 ⟨rfl, rfl⟩
      go_wp2
      go_ret
      exact ⟨rfl, rfl⟩
    | false =>
      cases h2 : hasSuffix s.data.toList [45] with
      | true =>
        simp only [trimSuffix, h0, Bool.false_eq_true, if_false] at H0
        simp only [trimSuffix, h1, Bool.false_eq_true, if_false] at H1
        simp only [trimSuffix, h2, if_true, List.length_cons, List.length_nil] at H2
        have H0 := hid H0
        have H1 := hid H1
        have H2 := hid H2
        clear hW  h0 h1 h2
        rw [if_neg (by decide)]
        rw [if_neg (by decide)]
        rw [if_pos rfl]
        go_enter Tryz.func109, Tryz.ntmps109
        go_wp2
        refine wp_loop_rounds 3 ?_
        rw [rounds_succ]
        go_wp2_with fail
        refine (H0.out _).mono ?_
        rintro e w0 ⟨rfl, rfl⟩
        go_wp2
        rw [rounds_succ]
        go_wp2_with fail
        refine (H1.out _).mono ?_
        rintro e w1 ⟨rfl, rfl⟩
        go_wp2
        rw [rounds_succ]
        go_wp2_with fail
        refine (H2.out _).mono ?_
        rintro e w9 ⟨rfl, rfl⟩
        go_wp2
        go_ret
        exact ⟨rfl, rfl⟩
      | false =>
        simp only [trimSuffix, h0, Bool.false_eq_true, if_false] at H0
        simp only [trimSuffix, h1, Bool.false_eq_true, if_false] at H1
        simp only [trimSuffix, h2, Bool.false_eq_true, if_false] at H2
        have H0 := hid H0
        have H1 := hid H1
        have H2 := hid H2
        clear hW  h0 h1 h2
        rw [if_neg (by decide)]
        rw [if_neg (by decide)]
        rw [if_neg (by decide)]
        go_enter Tryz.func109, Tryz.ntmps109
        go_wp2
        refine wp_loop_rounds 4 ?_
        rw [rounds_succ]
        go_wp2_with fail
        refine (H0.out _).mono ?_
        rintro e w0 ⟨rfl, rfl⟩
        go_wp2
        rw [rounds_succ]
        go_wp2_with fail
        refine (H1.out _).mono ?_
        rintro e w1 ⟨rfl, rfl⟩
        go_wp2
        rw [rounds_succ]
        go_wp2_with fail
        refine (H2.out _).mono ?_
        rintro e w2 ⟨rfl, rfl⟩
        go_wp2
        rw [rounds_succ]
        go_wp2
        go_ret
        rw [bs_same]
        exact ⟨rfl, rfl⟩
end Go.Proofs.YtgldgdopabmefaaGreatDoor
namespace Go.Proofs.YtgldgdopabmefaaGreatDoor
open Go.RowKit Go.Lib

/-- What the program's variables hold. -/
def LexW (w : World) : Prop := EntW w ∧ NoteW w
theorem lex_below {w w' : World} (h : LexW w) (hb : Below w.heap.size w w') : LexW w' := ⟨ent_below h.1 hb, note_below h.2 hb⟩
end Go.Proofs.YtgldgdopabmefaaGreatDoor
namespace Go.Proofs.YtgldgdopabmefaaGreatDoor
open Go.ChangeShapes Go.WideShapes Go.ChangeAt Go.RowKit Go.Lib
set_option linter.unusedVariables false
set_option maxRecDepth 100000

theorem own : ownKnob Tryz.prog.godebug = none := by kernel_rfl
theorem laidOut : laidOutB Tryz.prog = true := by kernel_rfl
theorem nCt : Tryz.prog.globalNamed "tympan/ent.controls" = some 1 := by kernel_rfl
theorem yCt : (Tryz.prog.globals[1]?).map (·.type) = some 118 := by kernel_rfl
theorem c32 : Tryz.prog.cellsOf 21 = 1 := by kernel_rfl
theorem c32x : Tryz.prog.cellsOf 118 = 32 := by kernel_rfl
/-- A bool that comes in. -/
theorem open_bool_arg {H : Type} {enc : TypeId × Value → H} {P : Program} {w : World} {base : Nat} {spare : Nat → Bool} {held : Bool} {r : Reach} {b0 : Nat} {t : TypeId} {v : Value} {d : DataW H} {ps : List MemPlace} (ht : P.underlying t = some .bool) (hval : Value.okWide P w r b0 t v) (hd : DataW.Trod enc P w base spare held t v d ps) :
    ∃ n, v = .bool n ∧ d = .lit (.bool n) ∧ ps = [] := by
  obtain ⟨n, rfl⟩ := okWide_bool ht hval
  obtain ⟨fuel, hf⟩ := hd
  obtain ⟨n', h, hx⟩ := DataW.trod_bool ht hf
  simp [Value.cells] at h
  subst h
  simp only [Prod.mk.injEq] at hx
  exact ⟨n, rfl, hx.1, hx.2⟩

/-- The table as the row lists it. -/
def ctlData : DataW Unit := tabData .i32 (Ent.ctl.map fun (c : Nat) => (c : Int))
theorem ctl_of_reads {w : World} (h : VarReads Tryz.prog w "tympan/ent.controls" ctlData) : CtlTab w := by
  obtain ⟨g, t, cs, fuel, p, hg, hty, hvar, hd⟩ := h
  obtain rfl := Option.some.inj (nCt.symm.trans hg)
  obtain rfl := Option.some.inj (yCt.symm.trans hty)
  intro j hj
  have hcs := cells_of_tab Tryz.underlying118 Tryz.underlying21 c32 c32x hd
  rw [World.var?_cell hg hvar j, ← Array.getElem?_toList, hcs, List.getElem?_map, List.getElem?_map]
  have hl : j < Ent.ctl.length := hj
  rw [List.getElem?_eq_getElem hl, List.getD_eq_getElem?_getD, List.getElem?_eq_getElem hl]
  rfl

theorem nS : Tryz.prog.globalNamed "tympan/note.shorts" = some 2 := by kernel_rfl
theorem nC : Tryz.prog.globalNamed "tympan/note.closes" = some 3 := by kernel_rfl
theorem nL : Tryz.prog.globalNamed "tympan/note.lefts" = some 4 := by kernel_rfl
theorem yS : (Tryz.prog.globals[2]?).map (·.type) = some 124 := by kernel_rfl
theorem yC : (Tryz.prog.globals[3]?).map (·.type) = some 124 := by kernel_rfl
theorem yL : (Tryz.prog.globals[4]?).map (·.type) = some 128 := by kernel_rfl
theorem c9 : Tryz.prog.cellsOf 9 = 1 := by kernel_rfl
/-- A text of a variable that is an array of texts. -/
theorem str_at {w : World} {name : String} {g : Nat} {t : TypeId} {n : Nat} {ds : List (DataW Unit)} (hg : Tryz.prog.globalNamed name = some g) (hy : (Tryz.prog.globals[g]?).map (·.type) = some t) (ht : Tryz.prog.underlying t = some (.array n 9)) (h : VarReads Tryz.prog w name (.agg ds)) (i : Nat) (hi : i < n) (l : List UInt8) (hd : ds[i]? = some (.lit (.string l))) :
    w.cell? ⟨g, i, none⟩ = some (.string ⟨l.toArray⟩) := by
  obtain ⟨g', t', cs, fuel, p, hg', hty, hvar, hx⟩ := h
  obtain rfl := Option.some.inj (hg.symm.trans hg')
  obtain rfl := Option.some.inj (hy.symm.trans hty)
  obtain ⟨fuel', d, q, hdi, he⟩ := array_elem ht hx i hi
  obtain rfl := Option.some.inj (hd.symm.trans hdi)
  rw [c9, Nat.mul_one] at he
  obtain ⟨s, hcs, hs, _⟩ := DataW.trod_string Tryz.underlying9 he
  simp only [Prod.mk.injEq, DataW.lit.injEq, Lit.string.injEq] at hs
  have e0 := congrArg (·[0]?) hcs
  simp only [List.getElem?_cons_zero, List.getElem?_take, List.getElem?_drop, Nat.add_zero, Nat.lt_one_iff, if_true] at e0
  rw [World.var?_cell hg hvar i, ← Array.getElem?_toList, e0]
  congr 2
  apply ByteArray.ext
  apply Array.ext'
  exact hs.1.symm

/-- The list of all rows of this seat. -/
def theLaid : List (String × DataW Unit) := [("tympan/ent.controls", Rows.laid_tympan_ent_controls), ("tympan/note.shorts", Rows.laid_tympan_note_shorts), ("tympan/note.closes", Rows.laid_tympan_note_closes), ("tympan/note.lefts", Rows.laid_tympan_note_lefts)]
theorem ctl_eq : (Rows.laid_tympan_ent_controls : DataW Unit) = ctlData := by kernel_rfl
theorem max_of_shaped {W : World} (h : W.ShapedOpen Tryz.prog) : MaxCell W :=
  Go.Proofs.cell_of_shapedOpen_int (zero := #[.int .i64 0]) (t := 3) h (of_decide_eq_true (by kernel_rfl)) (by kernel_rfl) rfl (by kernel_rfl) (by kernel_rfl) Tryz.underlying3
theorem tabs_of_laid {W : World} (h : laidMet Tryz.prog theLaid W) (hs : W.ShapedOpen Tryz.prog) : LexW W := by
  have h0 : VarReads Tryz.prog W "tympan/ent.controls" Rows.laid_tympan_ent_controls := laidMet.reads h (.head _)
  have h1 : VarReads Tryz.prog W "tympan/note.shorts" Rows.laid_tympan_note_shorts := laidMet.reads h (.tail _ (.head _))
  have h2 : VarReads Tryz.prog W "tympan/note.closes" Rows.laid_tympan_note_closes := laidMet.reads h (.tail _ (.tail _ (.head _)))
  have h3 : VarReads Tryz.prog W "tympan/note.lefts" Rows.laid_tympan_note_lefts := laidMet.reads h (.tail _ (.tail _ (.tail _ (.head _))))
  exact ⟨⟨ctl_of_reads (by rw [← ctl_eq]; exact h0), max_of_shaped hs⟩, max_of_shaped hs, str_at nS yS Tryz.underlying124 h1 0 (by omega) [62] rfl, str_at nS yS Tryz.underlying124 h1 1 (by omega) [45, 62] rfl,
    str_at nC yC Tryz.underlying124 h2 0 (by omega) [45, 45] rfl, str_at nC yC Tryz.underlying124 h2 1 (by omega) [45, 45, 33] rfl,
    str_at nL yL Tryz.underlying128 h3 0 (by omega) [45, 45, 33] rfl, str_at nL yL Tryz.underlying128 h3 1 (by omega) [45, 45] rfl, str_at nL yL Tryz.underlying128 h3 2 (by omega) [45] rfl⟩

/-- A world for the witness: the settled one, the variables as they are laid. -/
noncomputable def laidWorld (os : Os) : World :=
  let w0 := World.holding Tryz.prog os ⟨#[], #[], []⟩
  let put (h : Array Obj) (g : Nat) (cs : Array Value) : Array Obj := h.modify g fun
    | .cells _ t frozen => .cells cs t frozen
    | o => o
  let h0 := put w0.heap 1 (Ent.ctl.map fun z => Value.int .i32 (z : Nat)).toArray
  let h1 := put h0 2 #[.string ⟨#[62]⟩, .string ⟨#[45, 62]⟩]
  let h2 := put h1 3 #[.string ⟨#[45, 45]⟩, .string ⟨#[45, 45, 33]⟩]
  let h3 := put h2 4 #[.string ⟨#[45, 45, 33]⟩, .string ⟨#[45, 45]⟩, .string ⟨#[45]⟩]
  { w0 with heap := h3 }
theorem laid_met (os : Os) (args : Array Value) : laidMet Tryz.prog theLaid ((laidWorld os).forCall (fun _ _ => 0) ⟨#[], args, []⟩).memory :=
  laidMet_of_run' 8 (by kernel_rfl) (by kernel_rfl)
end Go.Proofs.YtgldgdopabmefaaGreatDoor
namespace Go.Proofs.YtgldgdopabmefaaGreatDoor
open Go.RowKit Go.Lib
set_option maxRecDepth 100000
set_option linter.unusedVariables false

theorem s_idx0 (w : World) : (Instr.index 124 (.agg #[.string ⟨#[62]⟩, .string ⟨#[45, 62]⟩]) (.int .i64 0)).run Tryz.prog w = .ok (.string ⟨#[62]⟩) w := by kernel_rfl
theorem s_idx1 (w : World) : (Instr.index 124 (.agg #[.string ⟨#[62]⟩, .string ⟨#[45, 62]⟩]) (.int .i64 1)).run Tryz.prog w = .ok (.string ⟨#[45, 62]⟩) w := by kernel_rfl
theorem c_idx0 (w : World) : (Instr.index 124 (.agg #[.string ⟨#[45, 45]⟩, .string ⟨#[45, 45, 33]⟩]) (.int .i64 0)).run Tryz.prog w = .ok (.string ⟨#[45, 45]⟩) w := by kernel_rfl
theorem c_idx1 (w : World) : (Instr.index 124 (.agg #[.string ⟨#[45, 45]⟩, .string ⟨#[45, 45, 33]⟩]) (.int .i64 1)).run Tryz.prog w = .ok (.string ⟨#[45, 45, 33]⟩) w := by kernel_rfl
theorem pre_cut (s p : ByteArray) (t : List UInt8) (w : World) (hp : p.data.toList = t) :
    Calls Tryz.prog 56 #[.string s, .string p] w fun e w' => e = .returned (.tuple #[.string (bs (trimPrefix s.data.toList t)), .bool (hasPrefix s.data.toList t)]) ∧ w = w' :=
  (Tryz.strings_CutPrefix s p w).mono fun e w' ⟨h1, h2⟩ => ⟨by rw [h1, hp]; rfl, h2.symm⟩
theorem drop_bs (s : ByteArray) (k : Nat) : s.extract k s.size = bs (s.data.toList.drop k) := by rw [← extract_drop, bs_same]
theorem take_suf (l t : List UInt8) (k : Nat) (hk : k ≤ l.length) (h : hasSuffix (l.take k) t = true) : trimSuffix (l.take k) t = l.take (k - t.length) := by
  unfold trimSuffix
  rw [if_pos h, List.take_take, List.length_take]
  congr 1
  omega
/-- What 'comment' tells. -/
def comV (l : List UInt8) (r : List UInt8 × Nat) : Value := .tuple #[.string (bs r.1), .string (bs (l.drop r.2))]
theorem com_ret {s : ByteArray} {R : List UInt8 × Nat} {V : Value} {t : List UInt8} {m n : Nat} (hV : comV s.data.toList R = V) (hR : Note.body s.data.toList = R) (hE : Note.body s.data.toList = (t, m)) (hn : s.size = n) :
    Ending.returned (.tuple #[.string (bs t), .string (s.extract m n)]) = .returned V := by
  rw [← hV, ← hR, hE, ← hn, drop_bs]
  rfl
theorem com_end {s : ByteArray} {R : List UInt8 × Nat} {V : Value} {t : List UInt8} (hV : comV s.data.toList R = V) (hR : Note.body s.data.toList = R) (hE : Note.body s.data.toList = (t, s.data.toList.length)) :
    Ending.returned (.tuple #[.string (bs t), .string ⟨#[]⟩]) = .returned V := by
  rw [← hV, ← hR, hE]
  unfold comV
  rw [List.drop_length]
  rfl
theorem noEnd_step {l : List UInt8} {k : Nat} (h : ∀ j, j < k → Note.noEnd l j) (h2 : Note.noEnd l k) : ∀ j, j < k + 1 → Note.noEnd l j := by
  intro j hj
  by_cases e : j = k
  · rw [e]; exact h2
  · exact h j (by omega)
set_option maxHeartbeats 2000000 in
theorem scan_any (s : ByteArray) (w : World) (hW : NoteW w) (hs : s.size ≤ 1000000) (h1 : hasPrefix s.data.toList [62] = false) (h2 : hasPrefix s.data.toList [45, 62] = false) :
    Calls Tryz.prog 90 #[.string s] w fun e w' => e = .returned (comV s.data.toList (Note.body s.data.toList)) ∧ Below w.heap.size w w' := by
  have s0 := hW.s0
  have s1 := hW.s1
  have HW := hid hW
  have k0 := hid hW.c0
  have k1 := hid hW.c1
  have P0 := fun W => pre_cut s ⟨#[62]⟩ [62] W rfl
  have P1 := fun W => pre_cut s ⟨#[45, 62]⟩ [45, 62] W rfl
  simp only [trimPrefix, h1, Bool.false_eq_true, if_false] at P0
  simp only [trimPrefix, h2, Bool.false_eq_true, if_false] at P1
  have P0 := hid P0
  have P1 := hid P1
  have a0 := s_idx0
  have a1 := s_idx1
  have b0 := c_idx0
  have b1 := c_idx1
  have hsl := size_list s
  have HSL := hid hsl
  obtain ⟨n, hn⟩ : ∃ n, s.size = n := ⟨_, rfl⟩
  have HN := hid hn
  have HB := fun W hW => bare_any s W hW (by omega)
  obtain ⟨R, hR⟩ : ∃ R, Note.body s.data.toList = R := ⟨_, rfl⟩
  rw [hR]
  have HR := hid hR
  have HB := hid HB
  clear hW h1 h2 hsl hR
  obtain ⟨V, hV⟩ : ∃ V, comV s.data.toList R = V := ⟨_, rfl⟩
  rw [hV]
  have HV := hid hV
  clear hV
  go_enter Tryz.func90, Tryz.ntmps90
  go_wp2
  refine wp_loop_rounds 3 ?_
  rw [rounds_succ]
  go_wp2_with fail
  refine (P0.out _).mono ?_
  rintro e w1 ⟨rfl, rfl⟩
  go_wp2
  rw [rounds_succ]
  go_wp2_with fail
  refine (P1.out _).mono ?_
  rintro e w1 ⟨rfl, rfl⟩
  go_wp2
  rw [rounds_succ]
  clear s0 s1 a0 a1
  go_wp2
  go_loopg [28] n (fun g iv wr => ∃ k : Nat, k + g = n ∧ iv = .int .i64 k ∧ Hid (∀ j, j < k → Note.noEnd s.data.toList j) ∧ w = wr)
  case atStart => exact ⟨0, by omega, rfl, hid fun j hj => absurd hj (Nat.not_lt_zero j), rfl⟩
  case round =>
    obtain ⟨k, hk, rfl, hI, rfl⟩ := hrel
    by_cases hlt : k < n
    · have d1 : decide (k < n) = true := decide_eq_true hlt
      have hltI : (k : Int) < (n : Int) := by omega
      have hlt2 : k < s.size := by omega
      have hltS : (k : Int) < (s.size : Int) := by omega
      obtain ⟨c, hc⟩ : ∃ c, s[k]'hlt2 = c := ⟨_, rfl⟩
      have hc256 := c.toNat_lt
      have hget : s.data.toList[k]? = some c := by
        rw [List.getElem?_eq_getElem (by rw [HSL.out]; exact hlt2), ← hc]
        rfl
      by_cases h62 : c.toNat = 62
      · have t1 : (((c.toNat : Nat) : Int) != 62) = false := by simp [h62]
        have hg62 : s.data.toList[k]? = some 62 := by rw [hget]; congr 1; exact UInt8.toNat_inj.1 h62
        have HG := hid hg62
        have hle : (k : Int) ≤ (s.size : Int) := by omega
        have hleN : k ≤ s.size := by omega
        have q0 : ((k : Int)).toNat = k := by omega
        have q1 : (0 : Int) ≤ (k : Int) := by omega
        have S0 := fun W => suf_cut (s.extract 0 k) ⟨#[45, 45]⟩ [45, 45] W (by rw [size_extract0 _ _ hleN]; omega) rfl
        have S1 := fun W => suf_cut (s.extract 0 k) ⟨#[45, 45, 33]⟩ [45, 45, 33] W (by rw [size_extract0 _ _ hleN]; omega) rfl
        rw [extract_list] at S0 S1
        have hlen := HSL.out
        have r1 : (0 : Int) ≤ (k : Int) + 1 := by omega
        have r2 : (k : Int) + 1 ≤ (s.size : Int) := by omega
        have r3 : ((k : Int) + 1).toNat = k + 1 := by omega
        have r4 : IntKind.i64.wrap ((k : Int) + 1) = (k : Int) + 1 := IntWalk.i64_in _ (by omega)
        have r5 : k + 1 ≤ s.size := by omega
        cases hs0 : hasSuffix (s.data.toList.take k) [45, 45] with
        | true =>
          have HE := Note.body_two hI.out hg62 hs0
          rw [take_suf _ _ _ (by omega) hs0, hs0] at S0
          have HE := hid HE
          have S0 := hid S0
          have g0 := k0.out
          have g1 := k1.out
          clear S1 hs0 hlen hg62 hget h62
          go_wp2
          refine wp_loop_rounds 1 ?_
          rw [rounds_succ]
          go_wp2_with fail
          refine (S0.out _).mono ?_
          rintro e w1 ⟨rfl, rfl⟩
          go_wp2
          go_region
          go_wp2
          go_returns
          exact ⟨com_ret HV.out HR.out HE.out HN.out, bel_drewN (Below.refl _ _) 1⟩
        | false =>
          rw [trimSuffix, hs0, if_neg (by decide)] at S0
          have S0 := hid S0
          cases hs1 : hasSuffix (s.data.toList.take k) [45, 45, 33] with
          | true =>
            have HE := Note.body_three hI.out hg62 hs1
            rw [take_suf _ _ _ (by omega) hs1, hs1] at S1
            have HE := hid HE
            have S1 := hid S1
            have g0 := k0.out
            have g1 := k1.out
            clear hs0 hs1 hlen hg62 hget h62
            go_wp2
            refine wp_loop_rounds 2 ?_
            rw [rounds_succ]
            go_wp2_with fail
            refine (S0.out _).mono ?_
            rintro e w1 ⟨rfl, rfl⟩
            go_wp2
            rw [rounds_succ]
            go_wp2_with fail
            refine (S1.out _).mono ?_
            rintro e w1 ⟨rfl, rfl⟩
            go_wp2
            go_region
            go_wp2
            go_returns
            exact ⟨com_ret HV.out HR.out HE.out HN.out, bel_drewN (Below.refl _ _) 1⟩
          | false =>
            have HNe := hid (noEnd_step hI.out (Note.noEnd_none hs0 hs1))
            rw [trimSuffix, hs1, if_neg (by decide)] at S1
            have S1 := hid S1
            have g0 := k0.out
            have g1 := k1.out
            clear hs0 hs1 hlen hg62 hget h62 hI
            go_wp2
            refine wp_loop_rounds 3 ?_
            rw [rounds_succ]
            go_wp2_with fail
            refine (S0.out _).mono ?_
            rintro e w1 ⟨rfl, rfl⟩
            go_wp2
            rw [rounds_succ]
            go_wp2_with fail
            refine (S1.out _).mono ?_
            rintro e w1 ⟨rfl, rfl⟩
            go_wp2
            rw [rounds_succ]
            go_wp2
            go_roundg (n - (k + 1))
            case measure => omega
            case rel => exact ⟨k + 1, by omega, by go_num, HNe, rfl⟩
      · have t1 : (((c.toNat : Nat) : Int) != 62) = true := by simp; omega
        have HNe := hid (noEnd_step hI.out (Note.noEnd_other (by
          rw [hget]
          intro e
          exact h62 (congrArg UInt8.toNat (Option.some.inj e)))))
        clear h62 hget hI
        go_wp2
        go_roundg (n - (k + 1))
        case measure => omega
        case rel => exact ⟨k + 1, by omega, by go_num, HNe, rfl⟩
    · have d1 : decide (k < n) = false := decide_eq_false hlt
      have hltI : ¬ (k : Int) < (n : Int) := by omega
      have HE := hid (Note.body_no (r := s.data.toList) (fun j hj => hI.out j (by have := HSL.out; omega)))
      clear hI
      go_wp2_with fail
      refine (HB.out _ HW.out).mono ?_
      rintro e w1 ⟨rfl, rfl⟩
      go_wp2
      go_returns
      exact ⟨com_end HV.out HR.out HE.out, Below.refl _ _⟩
theorem comment_any (s : ByteArray) (w : World) (hW : NoteW w) (hs : s.size ≤ 1000000) :
    Calls Tryz.prog 90 #[.string s] w fun e w' => e = .returned (comV s.data.toList (Note.comment s.data.toList)) ∧ Below w.heap.size w w' := by
  unfold Note.comment
  cases h1 : hasPrefix s.data.toList [62] with
  | true =>
    rw [if_pos rfl]
    have s0 := hW.s0
    have s1 := hW.s1
    have P0 := fun W => pre_cut s ⟨#[62]⟩ [62] W rfl
    simp only [trimPrefix, h1, if_true, List.length_cons, List.length_nil, Nat.zero_add] at P0
    obtain ⟨X, hX⟩ : ∃ X, bs (s.data.toList.drop 1) = X := ⟨_, rfl⟩
    rw [hX] at P0
    have P0 := hid P0
    have HX := hid hX
    clear hX
    have a0 := s_idx0
    clear hW h1
    go_enter Tryz.func90, Tryz.ntmps90
    go_wp2
    refine wp_loop_rounds 1 ?_
    rw [rounds_succ]
    go_wp2_with fail
    refine (P0.out _).mono ?_
    rintro e w1 ⟨rfl, rfl⟩
    go_wp2
    go_returns
    exact ⟨by rw [← HX.out]; rfl, Below.refl _ _⟩
  | false =>
    rw [if_neg (by decide)]
    cases h2 : hasPrefix s.data.toList [45, 62] with
    | true =>
      rw [if_pos rfl]
      have s0 := hW.s0
      have s1 := hW.s1
      have P0 := fun W => pre_cut s ⟨#[62]⟩ [62] W rfl
      have P1 := fun W => pre_cut s ⟨#[45, 62]⟩ [45, 62] W rfl
      simp only [trimPrefix, h1, Bool.false_eq_true, if_false] at P0
      simp only [trimPrefix, h2, if_true, List.length_cons, List.length_nil, Nat.zero_add] at P1
      obtain ⟨X, hX⟩ : ∃ X, bs (s.data.toList.drop 2) = X := ⟨_, rfl⟩
      rw [show 1 + 1 = 2 from rfl, hX] at P1
      have HX := hid hX
      clear hX
      have P0 := hid P0
      have P1 := hid P1
      have a0 := s_idx0
      have a1 := s_idx1
      clear hW h1 h2
      go_enter Tryz.func90, Tryz.ntmps90
      go_wp2
      refine wp_loop_rounds 2 ?_
      rw [rounds_succ]
      go_wp2_with fail
      refine (P0.out _).mono ?_
      rintro e w1 ⟨rfl, rfl⟩
      go_wp2
      rw [rounds_succ]
      go_wp2_with fail
      refine (P1.out _).mono ?_
      rintro e w1 ⟨rfl, rfl⟩
      go_wp2
      go_returns
      exact ⟨by rw [← HX.out]; rfl, Below.refl _ _⟩
    | false =>
      rw [if_neg (by decide)]
      exact scan_any s w hW hs h1 h2
end Go.Proofs.YtgldgdopabmefaaGreatDoor
