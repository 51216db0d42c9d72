/- What the rows of this seat share: they list no variable. -/
import Derived.Test.YtmgbjkekfejnfaaRows
import Derived.Test.YtmgbjkekfejnfaaMarkPs
import Derived.Test.YtmgbjkekfejnfaaMarkFe
import Derived.Test.YtmgbjkekfejnfaaMarkBk
import Derived.Test.YtmgbjkekfejnfaaMarkSz
import Derived.ProofKit
import Derived.OpenShut
import Derived.ShutString
import Derived.ChangeOld
import Derived.Below
import Derived.Deep.DeepHandedRow
import Derived.Lib.LaidTab
import Derived.Shelf.Vars
namespace Go.Proofs.Ytmgbjkekfejnfaa
open Go.ChangeShapes Go.WideShapes Go.ChangeAt Go.RowKit Go.Lib
set_option linter.unusedVariables false
set_option maxRecDepth 100000

theorem own : ownKnob Try.prog.godebug = none := by kernel_rfl
theorem laidOut : laidOutB Try.prog = true := by kernel_rfl
/-- Whatever world. -/
def AnyW (w : World) : Prop := True
theorem tabs_of_laid {W : World} {Q : Prop} (h : Q) : AnyW W := True.intro
/-- A world for the witness. -/
noncomputable def laidWorld (os : Os) : World := World.holding Try.prog os ⟨#[], #[], []⟩
theorem laid_met (os : Os) (args : Array Value) : laidMet Try.prog ([] : List (String × DataW Unit)) ((laidWorld os).forCall (fun _ _ => 0) ⟨#[], args, []⟩).memory :=
  laidMet_of_run' 8 (by kernel_rfl) (by kernel_rfl)
theorem str_bs (s : ByteArray) : ∃ nm : List UInt8, s = bs nm := ⟨s.data.toList, by cases s; simp [bs]⟩
section
variable {H : Type} {enc : TypeId × Value → H}
/-- A mark that came in. -/
theorem mark_val {W : World} {b0 : Nat} {v : Value} {d : DataW H} {p : List MemPlace} (hv : Value.okWide Try.prog W .any b0 25 v) (h : DataW.Trod enc Try.prog W 0 (fun _ => true) true 25 v d p) :
    ∃ r x, v = .agg #[.int .i64 r.id, .string (bs r.name), .slice r.aa r.an r.ac] ∧ CameM W r x := by
  obtain ⟨cs, rfl, _⟩ := okWide_struct Try.underlying25 hv
  obtain ⟨n, h⟩ := h
  obtain ⟨r, x, e, hC⟩ := mark_arg h
  refine ⟨r, x, ?_, hC⟩
  have e2 : cs.toList = _ := e
  rw [show cs = cs.toList.toArray by simp, e2]
end
end Go.Proofs.Ytmgbjkekfejnfaa
