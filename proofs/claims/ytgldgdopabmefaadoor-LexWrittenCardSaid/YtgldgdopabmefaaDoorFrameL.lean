/- What the program's variables hold, of packages ent and note. What the rows of this seat share: the variables of packages ent and note out of the row's list; a number of the library's own out of the world's shape; a world that meets the list. Written by tools/gen_framel.py. -/
import Derived.Test.YtgldgdopabmefaaDoorEntProg
import Derived.Test.YtgldgdopabmefaaDoorNoteBare
import Derived.Test.YtgldgdopabmefaaDoorCards
import Derived.Test.YtgldgdopabmefaaDoorTie
import Derived.ProofKit
import Derived.OpenShut
import Derived.ShutString
import Derived.ChangeOld
import Derived.Below
import Derived.Deep.DeepHandedRow
import Derived.Lib.LaidTab
import Derived.Shelf.Vars
namespace Go.Proofs.YtgldgdopabmefaaDoor
open Go.RowKit Go.Lib

/-- What the program's variables hold. -/
def LexW (w : World) : Prop := EntW w ∧ NoteW w
theorem lex_below {w w' : World} (h : LexW w) (hb : Below w.heap.size w w') : LexW w' := ⟨ent_below h.1 hb, note_below h.2 hb⟩
end Go.Proofs.YtgldgdopabmefaaDoor
namespace Go.Proofs.YtgldgdopabmefaaDoor
open Go.ChangeShapes Go.WideShapes Go.ChangeAt Go.RowKit Go.Lib
set_option linter.unusedVariables false
set_option maxRecDepth 100000

theorem own : ownKnob Tryd.prog.godebug = none := by kernel_rfl
theorem laidOut : laidOutB Tryd.prog = true := by kernel_rfl
theorem nCt : Tryd.prog.globalNamed "tympan/ent.controls" = some 1 := by kernel_rfl
theorem yCt : (Tryd.prog.globals[1]?).map (·.type) = some 99 := by kernel_rfl
theorem c32 : Tryd.prog.cellsOf 21 = 1 := by kernel_rfl
theorem c32x : Tryd.prog.cellsOf 99 = 32 := by kernel_rfl
/-- A bool that comes in. -/
theorem open_bool_arg {H : Type} {enc : TypeId × Value → H} {P : Program} {w : World} {base : Nat} {spare : Nat → Bool} {held : Bool} {r : Reach} {b0 : Nat} {t : TypeId} {v : Value} {d : DataW H} {ps : List MemPlace} (ht : P.underlying t = some .bool) (hval : Value.okWide P w r b0 t v) (hd : DataW.Trod enc P w base spare held t v d ps) :
    ∃ n, v = .bool n ∧ d = .lit (.bool n) ∧ ps = [] := by
  obtain ⟨n, rfl⟩ := okWide_bool ht hval
  obtain ⟨fuel, hf⟩ := hd
  obtain ⟨n', h, hx⟩ := DataW.trod_bool ht hf
  simp [Value.cells] at h
  subst h
  simp only [Prod.mk.injEq] at hx
  exact ⟨n, rfl, hx.1, hx.2⟩

/-- The table as the row lists it. -/
def ctlData : DataW Unit := tabData .i32 (Ent.ctl.map fun (c : Nat) => (c : Int))
theorem ctl_of_reads {w : World} (h : VarReads Tryd.prog w "tympan/ent.controls" ctlData) : CtlTab w := by
  obtain ⟨g, t, cs, fuel, p, hg, hty, hvar, hd⟩ := h
  obtain rfl := Option.some.inj (nCt.symm.trans hg)
  obtain rfl := Option.some.inj (yCt.symm.trans hty)
  intro j hj
  have hcs := cells_of_tab Tryd.underlying99 Tryd.underlying21 c32 c32x hd
  rw [World.var?_cell hg hvar j, ← Array.getElem?_toList, hcs, List.getElem?_map, List.getElem?_map]
  have hl : j < Ent.ctl.length := hj
  rw [List.getElem?_eq_getElem hl, List.getD_eq_getElem?_getD, List.getElem?_eq_getElem hl]
  rfl

theorem nS : Tryd.prog.globalNamed "tympan/note.shorts" = some 2 := by kernel_rfl
theorem nC : Tryd.prog.globalNamed "tympan/note.closes" = some 3 := by kernel_rfl
theorem nL : Tryd.prog.globalNamed "tympan/note.lefts" = some 4 := by kernel_rfl
theorem yS : (Tryd.prog.globals[2]?).map (·.type) = some 105 := by kernel_rfl
theorem yC : (Tryd.prog.globals[3]?).map (·.type) = some 105 := by kernel_rfl
theorem yL : (Tryd.prog.globals[4]?).map (·.type) = some 110 := by kernel_rfl
theorem c9 : Tryd.prog.cellsOf 9 = 1 := by kernel_rfl
/-- A text of a variable that is an array of texts. -/
theorem str_at {w : World} {name : String} {g : Nat} {t : TypeId} {n : Nat} {ds : List (DataW Unit)} (hg : Tryd.prog.globalNamed name = some g) (hy : (Tryd.prog.globals[g]?).map (·.type) = some t) (ht : Tryd.prog.underlying t = some (.array n 9)) (h : VarReads Tryd.prog w name (.agg ds)) (i : Nat) (hi : i < n) (l : List UInt8) (hd : ds[i]? = some (.lit (.string l))) :
    w.cell? ⟨g, i, none⟩ = some (.string ⟨l.toArray⟩) := by
  obtain ⟨g', t', cs, fuel, p, hg', hty, hvar, hx⟩ := h
  obtain rfl := Option.some.inj (hg.symm.trans hg')
  obtain rfl := Option.some.inj (hy.symm.trans hty)
  obtain ⟨fuel', d, q, hdi, he⟩ := array_elem ht hx i hi
  obtain rfl := Option.some.inj (hd.symm.trans hdi)
  rw [c9, Nat.mul_one] at he
  obtain ⟨s, hcs, hs, _⟩ := DataW.trod_string Tryd.underlying9 he
  simp only [Prod.mk.injEq, DataW.lit.injEq, Lit.string.injEq] at hs
  have e0 := congrArg (·[0]?) hcs
  simp only [List.getElem?_cons_zero, List.getElem?_take, List.getElem?_drop, Nat.add_zero, Nat.lt_one_iff, if_true] at e0
  rw [World.var?_cell hg hvar i, ← Array.getElem?_toList, e0]
  congr 2
  apply ByteArray.ext
  apply Array.ext'
  exact hs.1.symm

/-- The list of all rows of this seat. -/
def theLaid : List (String × DataW Unit) := [("tympan/ent.controls", Rows.laid_tympan_ent_controls), ("tympan/note.shorts", Rows.laid_tympan_note_shorts), ("tympan/note.closes", Rows.laid_tympan_note_closes), ("tympan/note.lefts", Rows.laid_tympan_note_lefts)]
theorem ctl_eq : (Rows.laid_tympan_ent_controls : DataW Unit) = ctlData := by kernel_rfl
theorem max_of_shaped {W : World} (h : W.ShapedOpen Tryd.prog) : MaxCell W :=
  Go.Proofs.cell_of_shapedOpen_int (zero := #[.int .i64 0]) (t := 3) h (of_decide_eq_true (by kernel_rfl)) (by kernel_rfl) rfl (by kernel_rfl) (by kernel_rfl) Tryd.underlying3
theorem tabs_of_laid {W : World} (h : laidMet Tryd.prog theLaid W) (hs : W.ShapedOpen Tryd.prog) : LexW W := by
  have h0 : VarReads Tryd.prog W "tympan/ent.controls" Rows.laid_tympan_ent_controls := laidMet.reads h (.head _)
  have h1 : VarReads Tryd.prog W "tympan/note.shorts" Rows.laid_tympan_note_shorts := laidMet.reads h (.tail _ (.head _))
  have h2 : VarReads Tryd.prog W "tympan/note.closes" Rows.laid_tympan_note_closes := laidMet.reads h (.tail _ (.tail _ (.head _)))
  have h3 : VarReads Tryd.prog W "tympan/note.lefts" Rows.laid_tympan_note_lefts := laidMet.reads h (.tail _ (.tail _ (.tail _ (.head _))))
  exact ⟨⟨ctl_of_reads (by rw [← ctl_eq]; exact h0), max_of_shaped hs⟩, max_of_shaped hs, str_at nS yS Tryd.underlying105 h1 0 (by omega) [62] rfl, str_at nS yS Tryd.underlying105 h1 1 (by omega) [45, 62] rfl,
    str_at nC yC Tryd.underlying105 h2 0 (by omega) [45, 45] rfl, str_at nC yC Tryd.underlying105 h2 1 (by omega) [45, 45, 33] rfl,
    str_at nL yL Tryd.underlying110 h3 0 (by omega) [45, 45, 33] rfl, str_at nL yL Tryd.underlying110 h3 1 (by omega) [45, 45] rfl, str_at nL yL Tryd.underlying110 h3 2 (by omega) [45] rfl⟩

/-- A world for the witness: the settled one, the variables as they are laid. -/
noncomputable def laidWorld (os : Os) : World :=
  let w0 := World.holding Tryd.prog os ⟨#[], #[], []⟩
  let put (h : Array Obj) (g : Nat) (cs : Array Value) : Array Obj := h.modify g fun
    | .cells _ t frozen => .cells cs t frozen
    | o => o
  let h0 := put w0.heap 1 (Ent.ctl.map fun z => Value.int .i32 (z : Nat)).toArray
  let h1 := put h0 2 #[.string ⟨#[62]⟩, .string ⟨#[45, 62]⟩]
  let h2 := put h1 3 #[.string ⟨#[45, 45]⟩, .string ⟨#[45, 45, 33]⟩]
  let h3 := put h2 4 #[.string ⟨#[45, 45, 33]⟩, .string ⟨#[45, 45]⟩, .string ⟨#[45]⟩]
  { w0 with heap := h3 }
theorem laid_met (os : Os) (args : Array Value) : laidMet Tryd.prog theLaid ((laidWorld os).forCall (fun _ _ => 0) ⟨#[], args, []⟩).memory :=
  laidMet_of_run' 8 (by kernel_rfl) (by kernel_rfl)
end Go.Proofs.YtgldgdopabmefaaDoor
