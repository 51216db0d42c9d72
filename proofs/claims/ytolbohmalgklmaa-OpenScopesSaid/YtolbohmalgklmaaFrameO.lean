/- What the rows of this seat share: they list no variable. -/
import Derived.Test.YtolbohmalgklmaaRows
import Derived.Test.YtolbohmalgklmaaOpenKn
import Derived.Test.YtolbohmalgklmaaOpenMu
import Derived.ProofKit
import Derived.OpenShut
import Derived.ShutString
import Derived.ChangeOld
import Derived.Below
import Derived.Deep.DeepHandedRow
import Derived.Lib.LaidTab
import Derived.Shelf.Vars
namespace Go.Proofs.Ytolbohmalgklmaa
open Go.ChangeShapes Go.WideShapes Go.ChangeAt Go.RowKit Go.Lib
set_option linter.unusedVariables false
set_option maxRecDepth 100000

theorem own : ownKnob Try.prog.godebug = none := by kernel_rfl
theorem laidOut : laidOutB Try.prog = true := by kernel_rfl
/-- Whatever world. -/
def AnyW (w : World) : Prop := True
theorem tabs_of_laid {W : World} {Q : Prop} (h : Q) : AnyW W := True.intro
/-- A world for the witness. -/
noncomputable def laidWorld (os : Os) : World := World.holding Try.prog os ⟨#[], #[], []⟩
theorem laid_met (os : Os) (args : Array Value) : laidMet Try.prog ([] : List (String × DataW Unit)) ((laidWorld os).forCall (fun _ _ => 0) ⟨#[], args, []⟩).memory :=
  laidMet_of_run' 8 (by kernel_rfl) (by kernel_rfl)
/-- What is little, as the walks take it. -/
theorem elems_in {w : World} {a : Option Addr} {len cap : Nat} {l : List Opn.E} (h : IsE w a len l) (hf : ∀ x ∈ l, eFits x) (h1 : len ≤ cap) (h2 : cap ≤ 9223372036854775807) (h3 : len ≤ 3000) : ElemsIn a len cap l w :=
  ⟨h, by omega, h1, h2, fun x hx => (hf x hx).1⟩
theorem names_in {w : World} {b : Option Addr} {bn bc : Nat} {ns : List (List UInt8)} (g : IsS w b bn ns) (g1 : bn ≤ bc) (g2 : bc ≤ 9223372036854775807) (g3 : bn ≤ 100) : NamesIn b bn bc ns w := ⟨g, by omega, g1, g2⟩
theorem str_bs (s : ByteArray) : ∃ nm : List UInt8, s = bs nm := ⟨s.data.toList, by cases s; simp [bs]⟩
theorem byte_of {x : Int} (h : (Lit.int .u8 x).wf = true) : ∃ n : Nat, x = n ∧ n < 256 := by
  have : 0 ≤ x ∧ x < 256 := by
    simp [Lit.wf, IntKind.min, IntKind.max, IntKind.bits, IntKind.signed] at h
    omega
  exact ⟨x.toNat, by omega, by omega⟩
end Go.Proofs.Ytolbohmalgklmaa
