/- What the rows of this seat share: the table of numbers of package ent out of the row's list; a world that meets the list; a number of the library's own out of the world's shape. -/
import Derived.Test.YtlikpmmkfjghbaaDoorCards
import Derived.Test.YtlikpmmkfjghbaaDoorTie
import Derived.Test.YtlikpmmkfjghbaaDoorEntProg
import Derived.ProofKit
import Derived.OpenShut
import Derived.ShutString
import Derived.ChangeOld
import Derived.Below
import Derived.Deep.DeepHandedRow
import Derived.Lib.LaidTab
import Derived.Shelf.Vars
namespace Go.Proofs.YtlikpmmkfjghbaaDoor
open Go.ChangeShapes Go.WideShapes Go.ChangeAt Go.RowKit Go.Lib
set_option linter.unusedVariables false
set_option maxRecDepth 100000

theorem own : ownKnob Tryd.prog.godebug = none := by kernel_rfl
theorem laidOut : laidOutB Tryd.prog = true := by kernel_rfl
theorem nC : Tryd.prog.globalNamed "tympan/ent.controls" = some 1 := by kernel_rfl
theorem yC : (Tryd.prog.globals[1]?).map (·.type) = some 66 := by kernel_rfl
theorem c32 : Tryd.prog.cellsOf 21 = 1 := by kernel_rfl
theorem c32x : Tryd.prog.cellsOf 66 = 32 := by kernel_rfl
/-- A bool that comes in. -/
theorem open_bool_arg {H : Type} {enc : TypeId × Value → H} {P : Program} {w : World} {base : Nat} {spare : Nat → Bool} {held : Bool} {r : Reach} {b0 : Nat} {t : TypeId} {v : Value} {d : DataW H} {ps : List MemPlace} (ht : P.underlying t = some .bool) (hval : Value.okWide P w r b0 t v) (hd : DataW.Trod enc P w base spare held t v d ps) :
    ∃ n, v = .bool n ∧ d = .lit (.bool n) ∧ ps = [] := by
  obtain ⟨n, rfl⟩ := okWide_bool ht hval
  obtain ⟨fuel, hf⟩ := hd
  obtain ⟨n', h, hx⟩ := DataW.trod_bool ht hf
  simp [Value.cells] at h
  subst h
  simp only [Prod.mk.injEq] at hx
  exact ⟨n, rfl, hx.1, hx.2⟩

/-- The table as the row lists it. -/
def ctlData : DataW Unit := tabData .i32 (Ent.ctl.map fun (c : Nat) => (c : Int))
theorem ctl_of_reads {w : World} (h : VarReads Tryd.prog w "tympan/ent.controls" ctlData) : CtlTab w := by
  obtain ⟨g, t, cs, fuel, p, hg, hty, hvar, hd⟩ := h
  obtain rfl := Option.some.inj (nC.symm.trans hg)
  obtain rfl := Option.some.inj (yC.symm.trans hty)
  intro j hj
  have hcs := cells_of_tab Tryd.underlying66 Tryd.underlying21 c32 c32x hd
  rw [World.var?_cell hg hvar j, ← Array.getElem?_toList, hcs, List.getElem?_map, List.getElem?_map]
  have hl : j < Ent.ctl.length := hj
  rw [List.getElem?_eq_getElem hl, List.getD_eq_getElem?_getD, List.getElem?_eq_getElem hl]
  rfl

/-- The list of all rows of this seat. -/
def theLaid : List (String × DataW Unit) := [("tympan/ent.controls", Rows.laid_tympan_ent_controls)]
theorem ctl_eq : (Rows.laid_tympan_ent_controls : DataW Unit) = ctlData := by kernel_rfl
theorem max_of_shaped {W : World} (h : W.ShapedOpen Tryd.prog) : MaxCell W :=
  Go.Proofs.cell_of_shapedOpen_int (zero := #[.int .i64 0]) (t := 3) h (of_decide_eq_true (by kernel_rfl)) (by kernel_rfl) rfl (by kernel_rfl) (by kernel_rfl) Tryd.underlying3
theorem tabs_of_laid {W : World} (h : laidMet Tryd.prog theLaid W) (hs : W.ShapedOpen Tryd.prog) : EntW W :=
  ⟨ctl_of_reads (by rw [← ctl_eq]; exact laidMet.reads h (.head _)), max_of_shaped hs⟩

/-- A world for the witness: the settled one, the table as it is laid. -/
noncomputable def laidWorld (os : Os) : World :=
  let w0 := World.holding Tryd.prog os ⟨#[], #[], []⟩
  let put (h : Array Obj) (g : Nat) (cs : Array Value) : Array Obj := h.modify g fun
    | .cells _ t frozen => .cells cs t frozen
    | o => o
  let h1 := put w0.heap 1 (Ent.ctl.map fun z => Value.int .i32 (z : Nat)).toArray
  { w0 with heap := h1 }
theorem laid_met (os : Os) (args : Array Value) : laidMet Tryd.prog theLaid ((laidWorld os).forCall (fun _ _ => 0) ⟨#[], args, []⟩).memory :=
  laidMet_of_run' 8 (by kernel_rfl) (by kernel_rfl)
end Go.Proofs.YtlikpmmkfjghbaaDoor
