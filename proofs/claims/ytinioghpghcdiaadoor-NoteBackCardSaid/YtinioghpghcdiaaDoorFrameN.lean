/- What the rows of this seat share: package note's variables out of the row's list; a number of the library's own out of the world's shape; a world that meets the list. -/
import Derived.Test.YtinioghpghcdiaaDoorCards
import Derived.Test.YtinioghpghcdiaaDoorTie
import Derived.Test.YtinioghpghcdiaaDoorNoteBare
import Derived.ProofKit
import Derived.OpenShut
import Derived.ShutString
import Derived.ChangeOld
import Derived.Below
import Derived.Deep.DeepHandedRow
import Derived.Lib.LaidTab
import Derived.Shelf.Vars
namespace Go.Proofs.YtinioghpghcdiaaDoor
open Go.ChangeShapes Go.WideShapes Go.ChangeAt Go.RowKit Go.Lib
set_option linter.unusedVariables false
set_option maxRecDepth 100000

theorem own : ownKnob Tryd.prog.godebug = none := by kernel_rfl
theorem laidOut : laidOutB Tryd.prog = true := by kernel_rfl
theorem nS : Tryd.prog.globalNamed "tympan/note.shorts" = some 0 := by kernel_rfl
theorem nC : Tryd.prog.globalNamed "tympan/note.closes" = some 1 := by kernel_rfl
theorem nL : Tryd.prog.globalNamed "tympan/note.lefts" = some 2 := by kernel_rfl
theorem yS : (Tryd.prog.globals[0]?).map (·.type) = some 53 := by kernel_rfl
theorem yC : (Tryd.prog.globals[1]?).map (·.type) = some 53 := by kernel_rfl
theorem yL : (Tryd.prog.globals[2]?).map (·.type) = some 55 := by kernel_rfl
theorem c9 : Tryd.prog.cellsOf 9 = 1 := by kernel_rfl
/-- A bool that comes in. -/
theorem open_bool_arg {H : Type} {enc : TypeId × Value → H} {P : Program} {w : World} {base : Nat} {spare : Nat → Bool} {held : Bool} {r : Reach} {b0 : Nat} {t : TypeId} {v : Value} {d : DataW H} {ps : List MemPlace} (ht : P.underlying t = some .bool) (hval : Value.okWide P w r b0 t v) (hd : DataW.Trod enc P w base spare held t v d ps) :
    ∃ n, v = .bool n ∧ d = .lit (.bool n) ∧ ps = [] := by
  obtain ⟨n, rfl⟩ := okWide_bool ht hval
  obtain ⟨fuel, hf⟩ := hd
  obtain ⟨n', h, hx⟩ := DataW.trod_bool ht hf
  simp [Value.cells] at h
  subst h
  simp only [Prod.mk.injEq] at hx
  exact ⟨n, rfl, hx.1, hx.2⟩
/-- A text of a variable that is an array of texts. -/
theorem str_at {w : World} {name : String} {g : Nat} {t : TypeId} {n : Nat} {ds : List (DataW Unit)} (hg : Tryd.prog.globalNamed name = some g) (hy : (Tryd.prog.globals[g]?).map (·.type) = some t) (ht : Tryd.prog.underlying t = some (.array n 9)) (h : VarReads Tryd.prog w name (.agg ds)) (i : Nat) (hi : i < n) (l : List UInt8) (hd : ds[i]? = some (.lit (.string l))) :
    w.cell? ⟨g, i, none⟩ = some (.string ⟨l.toArray⟩) := by
  obtain ⟨g', t', cs, fuel, p, hg', hty, hvar, hx⟩ := h
  obtain rfl := Option.some.inj (hg.symm.trans hg')
  obtain rfl := Option.some.inj (hy.symm.trans hty)
  obtain ⟨fuel', d, q, hdi, he⟩ := array_elem ht hx i hi
  obtain rfl := Option.some.inj (hd.symm.trans hdi)
  rw [c9, Nat.mul_one] at he
  obtain ⟨s, hcs, hs, _⟩ := DataW.trod_string Tryd.underlying9 he
  simp only [Prod.mk.injEq, DataW.lit.injEq, Lit.string.injEq] at hs
  have e0 := congrArg (·[0]?) hcs
  simp only [List.getElem?_cons_zero, List.getElem?_take, List.getElem?_drop, Nat.add_zero, Nat.lt_one_iff, if_true] at e0
  rw [World.var?_cell hg hvar i, ← Array.getElem?_toList, e0]
  congr 2
  apply ByteArray.ext
  apply Array.ext'
  exact hs.1.symm

/-- The list of all rows of this seat. -/
def theLaid : List (String × DataW Unit) := [("tympan/note.shorts", Rows.laid_tympan_note_shorts), ("tympan/note.closes", Rows.laid_tympan_note_closes), ("tympan/note.lefts", Rows.laid_tympan_note_lefts)]
theorem max_of_shaped {W : World} (h : W.ShapedOpen Tryd.prog) : MaxCell W :=
  Go.Proofs.cell_of_shapedOpen_int (zero := #[.int .i64 0]) (t := 3) h (of_decide_eq_true (by kernel_rfl)) (by kernel_rfl) rfl (by kernel_rfl) (by kernel_rfl) Tryd.underlying3
theorem tabs_of_laid {W : World} (h : laidMet Tryd.prog theLaid W) (hs : W.ShapedOpen Tryd.prog) : NoteW W := by
  have h1 : VarReads Tryd.prog W "tympan/note.shorts" Rows.laid_tympan_note_shorts := laidMet.reads h (.head _)
  have h2 : VarReads Tryd.prog W "tympan/note.closes" Rows.laid_tympan_note_closes := laidMet.reads h (.tail _ (.head _))
  have h3 : VarReads Tryd.prog W "tympan/note.lefts" Rows.laid_tympan_note_lefts := laidMet.reads h (.tail _ (.tail _ (.head _)))
  exact ⟨max_of_shaped hs, str_at nS yS Tryd.underlying53 h1 0 (by omega) [62] rfl, str_at nS yS Tryd.underlying53 h1 1 (by omega) [45, 62] rfl,
    str_at nC yC Tryd.underlying53 h2 0 (by omega) [45, 45] rfl, str_at nC yC Tryd.underlying53 h2 1 (by omega) [45, 45, 33] rfl,
    str_at nL yL Tryd.underlying55 h3 0 (by omega) [45, 45, 33] rfl, str_at nL yL Tryd.underlying55 h3 1 (by omega) [45, 45] rfl, str_at nL yL Tryd.underlying55 h3 2 (by omega) [45] rfl⟩

/-- A world for the witness: the settled one, the variables as they are laid. -/
noncomputable def laidWorld (os : Os) : World :=
  let w0 := World.holding Tryd.prog os ⟨#[], #[], []⟩
  let put (h : Array Obj) (g : Nat) (cs : Array Value) : Array Obj := h.modify g fun
    | .cells _ t frozen => .cells cs t frozen
    | o => o
  let h1 := put w0.heap 0 #[.string ⟨#[62]⟩, .string ⟨#[45, 62]⟩]
  let h2 := put h1 1 #[.string ⟨#[45, 45]⟩, .string ⟨#[45, 45, 33]⟩]
  let h3 := put h2 2 #[.string ⟨#[45, 45, 33]⟩, .string ⟨#[45, 45]⟩, .string ⟨#[45]⟩]
  { w0 with heap := h3 }
theorem laid_met (os : Os) (args : Array Value) : laidMet Tryd.prog theLaid ((laidWorld os).forCall (fun _ _ => 0) ⟨#[], args, []⟩).memory :=
  laidMet_of_run' 8 (by kernel_rfl) (by kernel_rfl)
end Go.Proofs.YtinioghpghcdiaaDoor
