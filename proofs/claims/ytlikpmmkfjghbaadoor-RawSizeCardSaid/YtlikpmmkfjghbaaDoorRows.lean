/-
  NARROWER THAN 'FOR EVERY INPUT', by the rows' own cells (each row's printed sentence says how): RawTexts: laid · RawParts: laid · RawSize: laid.
  DERIVED. THE GIVEN ROWS OF THIS SEAT. 3 by the template 'for every input the law returns true; each argument reads behind the call as it read before'; 0 by the template 'total and deterministic' (their statements: YtlikpmmkfjghbaaDoorTotals.lean).
  GIVEN WITH THE SEED: the statements are not yours to turn. If you find one false, say at which input.
  Laid BY PROGRAM, IN A SANDBOX (cutbox-rows.mjs): the forced cells as the released guide's own fill.sh prints them over the translation 3d23b99cc6b0c39b… (all of the seat's roots in one cut). By AI agents, Wed Nov 11 2026. No macro, syntax, notation, axiom, sorry.
-/
import Derived.Test.YtlikpmmkfjghbaaDoorChecked
import GoSem.Claim
import GoSem.ClaimJoined
import GoSem.ClaimMapViews
import Derived.JoinedTies
import Derived.KernelRfl
namespace Go.Proofs.YtlikpmmkfjghbaaDoor
/- THE CELL 'sum', in the pinned program and in every row, IS THE sha256 OF THE DUMP (.gsa) THAT YtlikpmmkfjghbaaDoorProg.lean LOADS. Nothing in Lean hashes anything: it is a label: what it is worth is what the hold of that sum in a sandbox is worth. -/
noncomputable def Tryd.pinned : Pinned := { name := "ytlikpmmkfjghbaadoor", sum := "3d23b99cc6b0c39b1a7d68441172f2db1af40e53b2bc25cff5d03868bc229d5f", checked := Tryd.checked }
namespace Rows
def none {H : Type} : Left H := { results := [], args := [] }

/- WHAT THE LISTED PACKAGE-LEVEL VARIABLES READ AS WHEN THE CALL BEGINS. Each datum BY PROGRAM (the guide's laid-datum.mjs) off the statement by which the dump's own 'gosem.cut.vars' lays the variable. In a bare row this is a premise. The card (YtlikpmmkfjghbaaDoorCards.lean) ties it to the program's text. -/
def laid_tympan_ent_controls {H : Type} : DataW H := .agg [.lit (.int .i32 8364), .lit (.int .i32 129), .lit (.int .i32 8218), .lit (.int .i32 402), .lit (.int .i32 8222), .lit (.int .i32 8230), .lit (.int .i32 8224), .lit (.int .i32 8225), .lit (.int .i32 710), .lit (.int .i32 8240), .lit (.int .i32 352), .lit (.int .i32 8249), .lit (.int .i32 338), .lit (.int .i32 141), .lit (.int .i32 381), .lit (.int .i32 143), .lit (.int .i32 144), .lit (.int .i32 8216), .lit (.int .i32 8217), .lit (.int .i32 8220), .lit (.int .i32 8221), .lit (.int .i32 8226), .lit (.int .i32 8211), .lit (.int .i32 8212), .lit (.int .i32 732), .lit (.int .i32 8482), .lit (.int .i32 353), .lit (.int .i32 8250), .lit (.int .i32 339), .lit (.int .i32 157), .lit (.int .i32 382), .lit (.int .i32 376)]

/-- 'tympanlaw08.RawTexts': WHATEVER THE INPUT: true; the input reads as it did. -/
def rawTextsSpec : ChangeSpec := { name := "rawTexts", fn := fun _ => fun
  | [d1, d2, d3, d4] => { results := [.lit (.bool true)], args := [d1, d2, d3, d4] }
  | _ => none }
def rawTextsRow : OpenClaim := { program := "ytlikpmmkfjghbaadoor", sum := "3d23b99cc6b0c39b1a7d68441172f2db1af40e53b2bc25cff5d03868bc229d5f", func := "tympan/tympanlaw08.RawTexts", spec := "rawTexts", inPlace := ["internal/bytealg.CountString", "internal/bytealg.IndexByteString", "internal/bytealg.IndexString", "internal/abi.NoEscape", "internal/bytealg.MakeNoZero"], named := ["internal/bytealg.MaxLen", "tympan/ent.controls"], apart := false, laid := [("tympan/ent.controls", laid_tympan_ent_controls)] }
def RawTextsSaid : Prop := rawTextsRow.holds Tryd.pinned (OpenSpec.ofChange rawTextsSpec)

/-- ITS FALSE NEIGHBOUR: 'it returns false'. Refute it at one input. -/
def rawTextsWrong : ChangeSpec := { name := "rawTexts", fn := fun _ => fun
  | [d1, d2, d3, d4] => { results := [.lit (.bool false)], args := [d1, d2, d3, d4] }
  | _ => none }
def RawTextsWrongFalsely : Prop := rawTextsRow.holds Tryd.pinned (OpenSpec.ofChange rawTextsWrong)

/-- 'tympanlaw08.RawParts': WHATEVER THE INPUT: true; the input reads as it did. -/
def rawPartsSpec : ChangeSpec := { name := "rawParts", fn := fun _ => fun
  | [d1, d2, d3] => { results := [.lit (.bool true)], args := [d1, d2, d3] }
  | _ => none }
def rawPartsRow : OpenClaim := { program := "ytlikpmmkfjghbaadoor", sum := "3d23b99cc6b0c39b1a7d68441172f2db1af40e53b2bc25cff5d03868bc229d5f", func := "tympan/tympanlaw08.RawParts", spec := "rawParts", inPlace := ["internal/bytealg.CountString", "internal/bytealg.IndexByteString", "internal/bytealg.IndexString", "internal/abi.NoEscape", "internal/bytealg.MakeNoZero"], named := ["internal/bytealg.MaxLen", "tympan/ent.controls"], apart := false, laid := [("tympan/ent.controls", laid_tympan_ent_controls)] }
def RawPartsSaid : Prop := rawPartsRow.holds Tryd.pinned (OpenSpec.ofChange rawPartsSpec)

/-- ITS FALSE NEIGHBOUR: 'it returns false'. Refute it at one input. -/
def rawPartsWrong : ChangeSpec := { name := "rawParts", fn := fun _ => fun
  | [d1, d2, d3] => { results := [.lit (.bool false)], args := [d1, d2, d3] }
  | _ => none }
def RawPartsWrongFalsely : Prop := rawPartsRow.holds Tryd.pinned (OpenSpec.ofChange rawPartsWrong)

/-- 'tympanlaw08.RawSize': WHATEVER THE INPUT: true; the input reads as it did. -/
def rawSizeSpec : ChangeSpec := { name := "rawSize", fn := fun _ => fun
  | [d1, d2, d3, d4] => { results := [.lit (.bool true)], args := [d1, d2, d3, d4] }
  | _ => none }
def rawSizeRow : OpenClaim := { program := "ytlikpmmkfjghbaadoor", sum := "3d23b99cc6b0c39b1a7d68441172f2db1af40e53b2bc25cff5d03868bc229d5f", func := "tympan/tympanlaw08.RawSize", spec := "rawSize", inPlace := ["internal/bytealg.CountString", "internal/bytealg.IndexByteString", "internal/bytealg.IndexString", "internal/abi.NoEscape", "internal/bytealg.MakeNoZero"], named := ["internal/bytealg.MaxLen", "tympan/ent.controls"], apart := false, laid := [("tympan/ent.controls", laid_tympan_ent_controls)] }
def RawSizeSaid : Prop := rawSizeRow.holds Tryd.pinned (OpenSpec.ofChange rawSizeSpec)

/-- ITS FALSE NEIGHBOUR: 'it returns false'. Refute it at one input. -/
def rawSizeWrong : ChangeSpec := { name := "rawSize", fn := fun _ => fun
  | [d1, d2, d3, d4] => { results := [.lit (.bool false)], args := [d1, d2, d3, d4] }
  | _ => none }
def RawSizeWrongFalsely : Prop := rawSizeRow.holds Tryd.pinned (OpenSpec.ofChange rawSizeWrong)

/- THE SECOND FORM. 'bulk': how many values and letters a reading holds, each counted each time it is reached (what is shared counts as often as it is met; a slice's spare places count too). A statement '..UptoSaid' is the law's where the arguments, and the package variables that the reading takes, are together of bulk at most 1048576: NARROWER than '..Said'. Prove '..Said' where nothing that the law and all that it calls make is longer than what came in: it says more and counts as full. Else prove '..UptoSaid'. A law counts once. -/
mutual
def uptoBulk {H : Type} : DataW H → Nat
  | .lit (.string bytes) => bytes.length + 1
  | .lit _ => 1
  | .nil => 1
  | .ptr d => uptoBulk d + 1
  | .slice elems spare => uptoBulkAll elems + uptoBulkAll spare + 1
  | .agg parts => uptoBulkAll parts + 1
  | .iface _ d => uptoBulk d + 1
  | .map entries => uptoBulkEntries entries + 1
  | .held _ => 1
def uptoBulkAll {H : Type} : List (DataW H) → Nat
  | [] => 0
  | d :: r => uptoBulk d + uptoBulkAll r
def uptoBulkEntries {H : Type} : List (Lit × DataW H) → Nat
  | [] => 0
  | x :: r => uptoBulkEntry x + uptoBulkEntries r
def uptoBulkEntry {H : Type} : Lit × DataW H → Nat
  | (.string bytes, d) => bytes.length + uptoBulk d + 1
  | (_, d) => uptoBulk d + 1
 end
def uptoSmall : (H : Type) → List (DataW H) → Bool := fun _ ds => decide (uptoBulkAll ds ≤ 1048576)
def OpenSpec.upto (s : _root_.Go.ChangeSpec) : _root_.Go.OpenSpec := { _root_.Go.OpenSpec.ofChange s with cond := some uptoSmall }

/-- 'tympanlaw08.RawTexts', WHERE WHAT IT READS IS OF BULK AT MOST 1048576: true; the input reads as it did. -/
def rawTextsUptoRow : OpenClaim := { program := "ytlikpmmkfjghbaadoor", sum := "3d23b99cc6b0c39b1a7d68441172f2db1af40e53b2bc25cff5d03868bc229d5f", func := "tympan/tympanlaw08.RawTexts", spec := "rawTexts", inPlace := ["internal/bytealg.CountString", "internal/bytealg.IndexByteString", "internal/bytealg.IndexString", "internal/abi.NoEscape", "internal/bytealg.MakeNoZero"], named := ["internal/bytealg.MaxLen", "tympan/ent.controls"], apart := false, laid := [("tympan/ent.controls", laid_tympan_ent_controls)], narrowed := true }
def RawTextsUptoSaid : Prop := rawTextsUptoRow.holds Tryd.pinned (OpenSpec.upto rawTextsSpec)

/-- 'tympanlaw08.RawParts', WHERE WHAT IT READS IS OF BULK AT MOST 1048576: true; the input reads as it did. -/
def rawPartsUptoRow : OpenClaim := { program := "ytlikpmmkfjghbaadoor", sum := "3d23b99cc6b0c39b1a7d68441172f2db1af40e53b2bc25cff5d03868bc229d5f", func := "tympan/tympanlaw08.RawParts", spec := "rawParts", inPlace := ["internal/bytealg.CountString", "internal/bytealg.IndexByteString", "internal/bytealg.IndexString", "internal/abi.NoEscape", "internal/bytealg.MakeNoZero"], named := ["internal/bytealg.MaxLen", "tympan/ent.controls"], apart := false, laid := [("tympan/ent.controls", laid_tympan_ent_controls)], narrowed := true }
def RawPartsUptoSaid : Prop := rawPartsUptoRow.holds Tryd.pinned (OpenSpec.upto rawPartsSpec)

/-- 'tympanlaw08.RawSize', WHERE WHAT IT READS IS OF BULK AT MOST 1048576: true; the input reads as it did. -/
def rawSizeUptoRow : OpenClaim := { program := "ytlikpmmkfjghbaadoor", sum := "3d23b99cc6b0c39b1a7d68441172f2db1af40e53b2bc25cff5d03868bc229d5f", func := "tympan/tympanlaw08.RawSize", spec := "rawSize", inPlace := ["internal/bytealg.CountString", "internal/bytealg.IndexByteString", "internal/bytealg.IndexString", "internal/abi.NoEscape", "internal/bytealg.MakeNoZero"], named := ["internal/bytealg.MaxLen", "tympan/ent.controls"], apart := false, laid := [("tympan/ent.controls", laid_tympan_ent_controls)], narrowed := true }
def RawSizeUptoSaid : Prop := rawSizeUptoRow.holds Tryd.pinned (OpenSpec.upto rawSizeSpec)

end Rows
end Go.Proofs.YtlikpmmkfjghbaaDoor
