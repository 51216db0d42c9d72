/-
  NARROWER THAN 'FOR EVERY INPUT', by the rows' own cells (each row's printed sentence says how): EntNames: laid · EntNumbers: laid · EntDecodes: laid · EntMarks: laid · EntEscaped: laid · EntRight: laid · EntLongest: laid.
  DERIVED. THE GIVEN ROWS OF THIS SEAT. 7 by the template 'for every input the law returns true; each argument reads behind the call as it read before'; 0 by the template 'total and deterministic' (their statements: YthfaogodiefefaaDoorTotals.lean).
  GIVEN WITH THE SEED: the statements are not yours to turn. If you find one false, say at which input.
  Laid BY PROGRAM, IN A SANDBOX (cutbox-rows.mjs): the forced cells as the released guide's own fill.sh prints them over the translation b53a3e2c531a5b4e… (all of the seat's roots in one cut). By AI agents, Wed Nov 11 2026. No macro, syntax, notation, axiom, sorry.
-/
import Derived.Test.YthfaogodiefefaaDoorChecked
import GoSem.Claim
import GoSem.ClaimJoined
import GoSem.ClaimMapViews
import Derived.JoinedTies
import Derived.KernelRfl
namespace Go.Proofs.YthfaogodiefefaaDoor
/- THE CELL 'sum', in the pinned program and in every row, IS THE sha256 OF THE DUMP (.gsa) THAT YthfaogodiefefaaDoorProg.lean LOADS. Nothing in Lean hashes anything: it is a label: what it is worth is what the hold of that sum in a sandbox is worth. -/
noncomputable def Tryd.pinned : Pinned := { name := "ythfaogodiefefaadoor", sum := "b53a3e2c531a5b4e464948cd37e7467e667e0fdc2407e89d3f153a0bca394698", checked := Tryd.checked }
namespace Rows
def none {H : Type} : Left H := { results := [], args := [] }

/- WHAT THE LISTED PACKAGE-LEVEL VARIABLES READ AS WHEN THE CALL BEGINS. Each datum BY PROGRAM (the guide's laid-datum.mjs) off the statement by which the dump's own 'gosem.cut.vars' lays the variable. In a bare row this is a premise. The card (YthfaogodiefefaaDoorCards.lean) ties it to the program's text. -/
def laid_tympan_ent_controls {H : Type} : DataW H := .agg [.lit (.int .i32 8364), .lit (.int .i32 129), .lit (.int .i32 8218), .lit (.int .i32 402), .lit (.int .i32 8222), .lit (.int .i32 8230), .lit (.int .i32 8224), .lit (.int .i32 8225), .lit (.int .i32 710), .lit (.int .i32 8240), .lit (.int .i32 352), .lit (.int .i32 8249), .lit (.int .i32 338), .lit (.int .i32 141), .lit (.int .i32 381), .lit (.int .i32 143), .lit (.int .i32 144), .lit (.int .i32 8216), .lit (.int .i32 8217), .lit (.int .i32 8220), .lit (.int .i32 8221), .lit (.int .i32 8226), .lit (.int .i32 8211), .lit (.int .i32 8212), .lit (.int .i32 732), .lit (.int .i32 8482), .lit (.int .i32 353), .lit (.int .i32 8250), .lit (.int .i32 339), .lit (.int .i32 157), .lit (.int .i32 382), .lit (.int .i32 376)]

/-- 'tympanlaw03.EntNames': WHATEVER THE INPUT: true; the input reads as it did. -/
def entNamesSpec : ChangeSpec := { name := "entNames", fn := fun _ => fun
  | [d] => { results := [.lit (.bool true)], args := [d] }
  | _ => none }
def entNamesRow : OpenClaim := { program := "ythfaogodiefefaadoor", sum := "b53a3e2c531a5b4e464948cd37e7467e667e0fdc2407e89d3f153a0bca394698", func := "tympan/tympanlaw03.EntNames", spec := "entNames", inPlace := ["internal/abi.NoEscape", "internal/bytealg.MakeNoZero", "internal/bytealg.IndexByteString", "internal/bytealg.IndexString"], named := ["internal/bytealg.MaxLen", "tympan/ent.controls"], apart := false, laid := [("tympan/ent.controls", laid_tympan_ent_controls)] }
def EntNamesSaid : Prop := entNamesRow.holds Tryd.pinned (OpenSpec.ofChange entNamesSpec)

/-- ITS FALSE NEIGHBOUR: 'it returns false'. Refute it at one input. -/
def entNamesWrong : ChangeSpec := { name := "entNames", fn := fun _ => fun
  | [d] => { results := [.lit (.bool false)], args := [d] }
  | _ => none }
def EntNamesWrongFalsely : Prop := entNamesRow.holds Tryd.pinned (OpenSpec.ofChange entNamesWrong)

/-- 'tympanlaw03.EntNumbers': WHATEVER THE INPUT: true; the input reads as it did. -/
def entNumbersSpec : ChangeSpec := { name := "entNumbers", fn := fun _ => fun
  | [d] => { results := [.lit (.bool true)], args := [d] }
  | _ => none }
def entNumbersRow : OpenClaim := { program := "ythfaogodiefefaadoor", sum := "b53a3e2c531a5b4e464948cd37e7467e667e0fdc2407e89d3f153a0bca394698", func := "tympan/tympanlaw03.EntNumbers", spec := "entNumbers", inPlace := ["internal/abi.NoEscape", "internal/bytealg.MakeNoZero", "internal/bytealg.IndexByteString", "internal/bytealg.IndexString"], named := ["internal/bytealg.MaxLen", "tympan/ent.controls"], apart := false, laid := [("tympan/ent.controls", laid_tympan_ent_controls)] }
def EntNumbersSaid : Prop := entNumbersRow.holds Tryd.pinned (OpenSpec.ofChange entNumbersSpec)

/-- ITS FALSE NEIGHBOUR: 'it returns false'. Refute it at one input. -/
def entNumbersWrong : ChangeSpec := { name := "entNumbers", fn := fun _ => fun
  | [d] => { results := [.lit (.bool false)], args := [d] }
  | _ => none }
def EntNumbersWrongFalsely : Prop := entNumbersRow.holds Tryd.pinned (OpenSpec.ofChange entNumbersWrong)

/-- 'tympanlaw03.EntDecodes': WHATEVER THE INPUT: true; the input reads as it did. -/
def entDecodesSpec : ChangeSpec := { name := "entDecodes", fn := fun _ => fun
  | [d1, d2] => { results := [.lit (.bool true)], args := [d1, d2] }
  | _ => none }
def entDecodesRow : OpenClaim := { program := "ythfaogodiefefaadoor", sum := "b53a3e2c531a5b4e464948cd37e7467e667e0fdc2407e89d3f153a0bca394698", func := "tympan/tympanlaw03.EntDecodes", spec := "entDecodes", inPlace := ["internal/abi.NoEscape", "internal/bytealg.MakeNoZero", "internal/bytealg.IndexByteString", "internal/bytealg.IndexString"], named := ["internal/bytealg.MaxLen", "tympan/ent.controls"], apart := false, laid := [("tympan/ent.controls", laid_tympan_ent_controls)] }
def EntDecodesSaid : Prop := entDecodesRow.holds Tryd.pinned (OpenSpec.ofChange entDecodesSpec)

/-- ITS FALSE NEIGHBOUR: 'it returns false'. Refute it at one input. -/
def entDecodesWrong : ChangeSpec := { name := "entDecodes", fn := fun _ => fun
  | [d1, d2] => { results := [.lit (.bool false)], args := [d1, d2] }
  | _ => none }
def EntDecodesWrongFalsely : Prop := entDecodesRow.holds Tryd.pinned (OpenSpec.ofChange entDecodesWrong)

/-- 'tympanlaw03.EntMarks': WHATEVER THE INPUT: true; the input reads as it did. -/
def entMarksSpec : ChangeSpec := { name := "entMarks", fn := fun _ => fun
  | [d] => { results := [.lit (.bool true)], args := [d] }
  | _ => none }
def entMarksRow : OpenClaim := { program := "ythfaogodiefefaadoor", sum := "b53a3e2c531a5b4e464948cd37e7467e667e0fdc2407e89d3f153a0bca394698", func := "tympan/tympanlaw03.EntMarks", spec := "entMarks", inPlace := ["internal/abi.NoEscape", "internal/bytealg.MakeNoZero", "internal/bytealg.IndexByteString", "internal/bytealg.IndexString"], named := ["internal/bytealg.MaxLen", "tympan/ent.controls"], apart := false, laid := [("tympan/ent.controls", laid_tympan_ent_controls)] }
def EntMarksSaid : Prop := entMarksRow.holds Tryd.pinned (OpenSpec.ofChange entMarksSpec)

/-- ITS FALSE NEIGHBOUR: 'it returns false'. Refute it at one input. -/
def entMarksWrong : ChangeSpec := { name := "entMarks", fn := fun _ => fun
  | [d] => { results := [.lit (.bool false)], args := [d] }
  | _ => none }
def EntMarksWrongFalsely : Prop := entMarksRow.holds Tryd.pinned (OpenSpec.ofChange entMarksWrong)

/-- 'tympanlaw03.EntEscaped': WHATEVER THE INPUT: true; the input reads as it did. -/
def entEscapedSpec : ChangeSpec := { name := "entEscaped", fn := fun _ => fun
  | [d1, d2] => { results := [.lit (.bool true)], args := [d1, d2] }
  | _ => none }
def entEscapedRow : OpenClaim := { program := "ythfaogodiefefaadoor", sum := "b53a3e2c531a5b4e464948cd37e7467e667e0fdc2407e89d3f153a0bca394698", func := "tympan/tympanlaw03.EntEscaped", spec := "entEscaped", inPlace := ["internal/abi.NoEscape", "internal/bytealg.MakeNoZero", "internal/bytealg.IndexByteString", "internal/bytealg.IndexString"], named := ["internal/bytealg.MaxLen", "tympan/ent.controls"], apart := false, laid := [("tympan/ent.controls", laid_tympan_ent_controls)] }
def EntEscapedSaid : Prop := entEscapedRow.holds Tryd.pinned (OpenSpec.ofChange entEscapedSpec)

/-- ITS FALSE NEIGHBOUR: 'it returns false'. Refute it at one input. -/
def entEscapedWrong : ChangeSpec := { name := "entEscaped", fn := fun _ => fun
  | [d1, d2] => { results := [.lit (.bool false)], args := [d1, d2] }
  | _ => none }
def EntEscapedWrongFalsely : Prop := entEscapedRow.holds Tryd.pinned (OpenSpec.ofChange entEscapedWrong)

/-- 'tympanlaw03.EntRight': WHATEVER THE INPUT: true; the input reads as it did. -/
def entRightSpec : ChangeSpec := { name := "entRight", fn := fun _ => fun
  | [d1, d2] => { results := [.lit (.bool true)], args := [d1, d2] }
  | _ => none }
def entRightRow : OpenClaim := { program := "ythfaogodiefefaadoor", sum := "b53a3e2c531a5b4e464948cd37e7467e667e0fdc2407e89d3f153a0bca394698", func := "tympan/tympanlaw03.EntRight", spec := "entRight", inPlace := ["internal/abi.NoEscape", "internal/bytealg.MakeNoZero", "internal/bytealg.IndexByteString", "internal/bytealg.IndexString"], named := ["internal/bytealg.MaxLen", "tympan/ent.controls"], apart := false, laid := [("tympan/ent.controls", laid_tympan_ent_controls)] }
def EntRightSaid : Prop := entRightRow.holds Tryd.pinned (OpenSpec.ofChange entRightSpec)

/-- ITS FALSE NEIGHBOUR: 'it returns false'. Refute it at one input. -/
def entRightWrong : ChangeSpec := { name := "entRight", fn := fun _ => fun
  | [d1, d2] => { results := [.lit (.bool false)], args := [d1, d2] }
  | _ => none }
def EntRightWrongFalsely : Prop := entRightRow.holds Tryd.pinned (OpenSpec.ofChange entRightWrong)

/-- 'tympanlaw03.EntLongest': WHATEVER THE INPUT: true; the input reads as it did. -/
def entLongestSpec : ChangeSpec := { name := "entLongest", fn := fun _ => fun
  | [d] => { results := [.lit (.bool true)], args := [d] }
  | _ => none }
def entLongestRow : OpenClaim := { program := "ythfaogodiefefaadoor", sum := "b53a3e2c531a5b4e464948cd37e7467e667e0fdc2407e89d3f153a0bca394698", func := "tympan/tympanlaw03.EntLongest", spec := "entLongest", inPlace := ["internal/abi.NoEscape", "internal/bytealg.MakeNoZero", "internal/bytealg.IndexByteString", "internal/bytealg.IndexString"], named := ["internal/bytealg.MaxLen", "tympan/ent.controls"], apart := false, laid := [("tympan/ent.controls", laid_tympan_ent_controls)] }
def EntLongestSaid : Prop := entLongestRow.holds Tryd.pinned (OpenSpec.ofChange entLongestSpec)

/-- ITS FALSE NEIGHBOUR: 'it returns false'. Refute it at one input. -/
def entLongestWrong : ChangeSpec := { name := "entLongest", fn := fun _ => fun
  | [d] => { results := [.lit (.bool false)], args := [d] }
  | _ => none }
def EntLongestWrongFalsely : Prop := entLongestRow.holds Tryd.pinned (OpenSpec.ofChange entLongestWrong)

/- THE SECOND FORM. 'bulk': how many values and letters a reading holds, each counted each time it is reached (what is shared counts as often as it is met; a slice's spare places count too). A statement '..UptoSaid' is the law's where the arguments, and the package variables that the reading takes, are together of bulk at most 1048576: NARROWER than '..Said'. Prove '..Said' where nothing that the law and all that it calls make is longer than what came in: it says more and counts as full. Else prove '..UptoSaid'. A law counts once. -/
mutual
def uptoBulk {H : Type} : DataW H → Nat
  | .lit (.string bytes) => bytes.length + 1
  | .lit _ => 1
  | .nil => 1
  | .ptr d => uptoBulk d + 1
  | .slice elems spare => uptoBulkAll elems + uptoBulkAll spare + 1
  | .agg parts => uptoBulkAll parts + 1
  | .iface _ d => uptoBulk d + 1
  | .map entries => uptoBulkEntries entries + 1
  | .held _ => 1
def uptoBulkAll {H : Type} : List (DataW H) → Nat
  | [] => 0
  | d :: r => uptoBulk d + uptoBulkAll r
def uptoBulkEntries {H : Type} : List (Lit × DataW H) → Nat
  | [] => 0
  | x :: r => uptoBulkEntry x + uptoBulkEntries r
def uptoBulkEntry {H : Type} : Lit × DataW H → Nat
  | (.string bytes, d) => bytes.length + uptoBulk d + 1
  | (_, d) => uptoBulk d + 1
 end
def uptoSmall : (H : Type) → List (DataW H) → Bool := fun _ ds => decide (uptoBulkAll ds ≤ 1048576)
def OpenSpec.upto (s : _root_.Go.ChangeSpec) : _root_.Go.OpenSpec := { _root_.Go.OpenSpec.ofChange s with cond := some uptoSmall }

/-- 'tympanlaw03.EntNames', WHERE WHAT IT READS IS OF BULK AT MOST 1048576: true; the input reads as it did. -/
def entNamesUptoRow : OpenClaim := { program := "ythfaogodiefefaadoor", sum := "b53a3e2c531a5b4e464948cd37e7467e667e0fdc2407e89d3f153a0bca394698", func := "tympan/tympanlaw03.EntNames", spec := "entNames", inPlace := ["internal/abi.NoEscape", "internal/bytealg.MakeNoZero", "internal/bytealg.IndexByteString", "internal/bytealg.IndexString"], named := ["internal/bytealg.MaxLen", "tympan/ent.controls"], apart := false, laid := [("tympan/ent.controls", laid_tympan_ent_controls)], narrowed := true }
def EntNamesUptoSaid : Prop := entNamesUptoRow.holds Tryd.pinned (OpenSpec.upto entNamesSpec)

/-- 'tympanlaw03.EntNumbers', WHERE WHAT IT READS IS OF BULK AT MOST 1048576: true; the input reads as it did. -/
def entNumbersUptoRow : OpenClaim := { program := "ythfaogodiefefaadoor", sum := "b53a3e2c531a5b4e464948cd37e7467e667e0fdc2407e89d3f153a0bca394698", func := "tympan/tympanlaw03.EntNumbers", spec := "entNumbers", inPlace := ["internal/abi.NoEscape", "internal/bytealg.MakeNoZero", "internal/bytealg.IndexByteString", "internal/bytealg.IndexString"], named := ["internal/bytealg.MaxLen", "tympan/ent.controls"], apart := false, laid := [("tympan/ent.controls", laid_tympan_ent_controls)], narrowed := true }
def EntNumbersUptoSaid : Prop := entNumbersUptoRow.holds Tryd.pinned (OpenSpec.upto entNumbersSpec)

/-- 'tympanlaw03.EntDecodes', WHERE WHAT IT READS IS OF BULK AT MOST 1048576: true; the input reads as it did. -/
def entDecodesUptoRow : OpenClaim := { program := "ythfaogodiefefaadoor", sum := "b53a3e2c531a5b4e464948cd37e7467e667e0fdc2407e89d3f153a0bca394698", func := "tympan/tympanlaw03.EntDecodes", spec := "entDecodes", inPlace := ["internal/abi.NoEscape", "internal/bytealg.MakeNoZero", "internal/bytealg.IndexByteString", "internal/bytealg.IndexString"], named := ["internal/bytealg.MaxLen", "tympan/ent.controls"], apart := false, laid := [("tympan/ent.controls", laid_tympan_ent_controls)], narrowed := true }
def EntDecodesUptoSaid : Prop := entDecodesUptoRow.holds Tryd.pinned (OpenSpec.upto entDecodesSpec)

/-- 'tympanlaw03.EntMarks', WHERE WHAT IT READS IS OF BULK AT MOST 1048576: true; the input reads as it did. -/
def entMarksUptoRow : OpenClaim := { program := "ythfaogodiefefaadoor", sum := "b53a3e2c531a5b4e464948cd37e7467e667e0fdc2407e89d3f153a0bca394698", func := "tympan/tympanlaw03.EntMarks", spec := "entMarks", inPlace := ["internal/abi.NoEscape", "internal/bytealg.MakeNoZero", "internal/bytealg.IndexByteString", "internal/bytealg.IndexString"], named := ["internal/bytealg.MaxLen", "tympan/ent.controls"], apart := false, laid := [("tympan/ent.controls", laid_tympan_ent_controls)], narrowed := true }
def EntMarksUptoSaid : Prop := entMarksUptoRow.holds Tryd.pinned (OpenSpec.upto entMarksSpec)

/-- 'tympanlaw03.EntEscaped', WHERE WHAT IT READS IS OF BULK AT MOST 1048576: true; the input reads as it did. -/
def entEscapedUptoRow : OpenClaim := { program := "ythfaogodiefefaadoor", sum := "b53a3e2c531a5b4e464948cd37e7467e667e0fdc2407e89d3f153a0bca394698", func := "tympan/tympanlaw03.EntEscaped", spec := "entEscaped", inPlace := ["internal/abi.NoEscape", "internal/bytealg.MakeNoZero", "internal/bytealg.IndexByteString", "internal/bytealg.IndexString"], named := ["internal/bytealg.MaxLen", "tympan/ent.controls"], apart := false, laid := [("tympan/ent.controls", laid_tympan_ent_controls)], narrowed := true }
def EntEscapedUptoSaid : Prop := entEscapedUptoRow.holds Tryd.pinned (OpenSpec.upto entEscapedSpec)

/-- 'tympanlaw03.EntRight', WHERE WHAT IT READS IS OF BULK AT MOST 1048576: true; the input reads as it did. -/
def entRightUptoRow : OpenClaim := { program := "ythfaogodiefefaadoor", sum := "b53a3e2c531a5b4e464948cd37e7467e667e0fdc2407e89d3f153a0bca394698", func := "tympan/tympanlaw03.EntRight", spec := "entRight", inPlace := ["internal/abi.NoEscape", "internal/bytealg.MakeNoZero", "internal/bytealg.IndexByteString", "internal/bytealg.IndexString"], named := ["internal/bytealg.MaxLen", "tympan/ent.controls"], apart := false, laid := [("tympan/ent.controls", laid_tympan_ent_controls)], narrowed := true }
def EntRightUptoSaid : Prop := entRightUptoRow.holds Tryd.pinned (OpenSpec.upto entRightSpec)

/-- 'tympanlaw03.EntLongest', WHERE WHAT IT READS IS OF BULK AT MOST 1048576: true; the input reads as it did. -/
def entLongestUptoRow : OpenClaim := { program := "ythfaogodiefefaadoor", sum := "b53a3e2c531a5b4e464948cd37e7467e667e0fdc2407e89d3f153a0bca394698", func := "tympan/tympanlaw03.EntLongest", spec := "entLongest", inPlace := ["internal/abi.NoEscape", "internal/bytealg.MakeNoZero", "internal/bytealg.IndexByteString", "internal/bytealg.IndexString"], named := ["internal/bytealg.MaxLen", "tympan/ent.controls"], apart := false, laid := [("tympan/ent.controls", laid_tympan_ent_controls)], narrowed := true }
def EntLongestUptoSaid : Prop := entLongestUptoRow.holds Tryd.pinned (OpenSpec.upto entLongestSpec)

end Rows
end Go.Proofs.YthfaogodiefefaaDoor
