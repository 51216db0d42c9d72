/-
  NARROWER THAN 'FOR EVERY INPUT', by the rows' own cells (each row's printed sentence says how): ClassBytes: laid · ClassRunes: laid · ClassFolds: laid · ClassLowers: laid · ClassAround: laid.
  DERIVED. THE GIVEN ROWS OF THIS SEAT. 5 by the template 'for every input the law returns true; each argument reads behind the call as it read before'; 0 by the template 'total and deterministic' (their statements: YtgnoiifakipliaaDoorTotals.lean).
  GIVEN WITH THE SEED: the statements are not yours to turn. If you find one false, say at which input.
  Laid BY PROGRAM, IN A SANDBOX (cutbox-rows.mjs): the forced cells as the released guide's own fill.sh prints them over the translation b7de4f5f815076f8… (all of the seat's roots in one cut). By AI agents, Wed Nov 11 2026. No macro, syntax, notation, axiom, sorry.
-/
import Derived.Test.YtgnoiifakipliaaDoorChecked
import GoSem.PinnedTables
import GoSem.Claim
import GoSem.ClaimJoined
import GoSem.ClaimMapViews
import Derived.JoinedTies
import Derived.KernelRfl
namespace Go.Proofs.YtgnoiifakipliaaDoor
/- THE CELL 'sum', in the pinned program and in every row, IS THE sha256 OF THE DUMP (.gsa) THAT YtgnoiifakipliaaDoorProg.lean LOADS. Nothing in Lean hashes anything: it is a label: what it is worth is what the hold of that sum in a sandbox is worth. -/
noncomputable def Tryd.pinned : Pinned := { name := "ytgnoiifakipliaadoor", sum := "b7de4f5f815076f8119156c3617415403b2c5e86da04a20fdc7d0ff32354ada1", checked := Tryd.checked }
namespace Rows
def none {H : Type} : Left H := { results := [], args := [] }

/- WHAT THE LISTED PACKAGE-LEVEL VARIABLES READ AS WHEN THE CALL BEGINS. Each datum BY PROGRAM (the guide's laid-datum.mjs) off the statement by which the dump's own 'gosem.cut.vars' lays the variable. In a bare row this is a premise. The card (YtgnoiifakipliaaDoorCards.lean) ties it to the program's text. -/
def laid_unicode_utf8_acceptRanges {H : Type} : DataW H := .agg [.agg [.lit (.int .u8 128), .lit (.int .u8 191)], .agg [.lit (.int .u8 160), .lit (.int .u8 191)], .agg [.lit (.int .u8 128), .lit (.int .u8 159)], .agg [.lit (.int .u8 144), .lit (.int .u8 191)], .agg [.lit (.int .u8 128), .lit (.int .u8 143)], .agg [.lit (.int .u8 0), .lit (.int .u8 0)], .agg [.lit (.int .u8 0), .lit (.int .u8 0)], .agg [.lit (.int .u8 0), .lit (.int .u8 0)], .agg [.lit (.int .u8 0), .lit (.int .u8 0)], .agg [.lit (.int .u8 0), .lit (.int .u8 0)], .agg [.lit (.int .u8 0), .lit (.int .u8 0)], .agg [.lit (.int .u8 0), .lit (.int .u8 0)], .agg [.lit (.int .u8 0), .lit (.int .u8 0)], .agg [.lit (.int .u8 0), .lit (.int .u8 0)], .agg [.lit (.int .u8 0), .lit (.int .u8 0)], .agg [.lit (.int .u8 0), .lit (.int .u8 0)]]
def laid_tympan_class_puncts {H : Type} : DataW H := .agg [.agg [.lit (.int .i32 33), .lit (.int .i32 47)], .agg [.lit (.int .i32 58), .lit (.int .i32 64)], .agg [.lit (.int .i32 91), .lit (.int .i32 96)], .agg [.lit (.int .i32 123), .lit (.int .i32 126)], .agg [.lit (.int .i32 161), .lit (.int .i32 169)], .agg [.lit (.int .i32 171), .lit (.int .i32 172)], .agg [.lit (.int .i32 174), .lit (.int .i32 177)], .agg [.lit (.int .i32 180), .lit (.int .i32 180)], .agg [.lit (.int .i32 182), .lit (.int .i32 184)], .agg [.lit (.int .i32 187), .lit (.int .i32 187)], .agg [.lit (.int .i32 191), .lit (.int .i32 191)], .agg [.lit (.int .i32 215), .lit (.int .i32 215)], .agg [.lit (.int .i32 247), .lit (.int .i32 247)], .agg [.lit (.int .i32 8208), .lit (.int .i32 8231)], .agg [.lit (.int .i32 8240), .lit (.int .i32 8286)], .agg [.lit (.int .i32 8352), .lit (.int .i32 8384)], .agg [.lit (.int .i32 8592), .lit (.int .i32 9215)], .agg [.lit (.int .i32 9472), .lit (.int .i32 10175)], .agg [.lit (.int .i32 11776), .lit (.int .i32 11869)], .agg [.lit (.int .i32 12289), .lit (.int .i32 12291)], .agg [.lit (.int .i32 12296), .lit (.int .i32 12320)], .agg [.lit (.int .i32 65040), .lit (.int .i32 65049)], .agg [.lit (.int .i32 65072), .lit (.int .i32 65131)], .agg [.lit (.int .i32 65281), .lit (.int .i32 65295)], .agg [.lit (.int .i32 65306), .lit (.int .i32 65312)], .agg [.lit (.int .i32 65339), .lit (.int .i32 65344)], .agg [.lit (.int .i32 65371), .lit (.int .i32 65381)], .agg [.lit (.int .i32 127744), .lit (.int .i32 129791)]]
/-- One of Go's own tables, pinned by name: the form's constant. -/
def laid_unicode_utf8_first : DataW Unit := Go.Pinned.utf8First

/-- 'tympanlaw02.ClassBytes': WHATEVER THE INPUT: true; the input reads as it did. -/
def classBytesSpec : ChangeSpec := { name := "classBytes", fn := fun _ => fun
  | [d] => { results := [.lit (.bool true)], args := [d] }
  | _ => none }
def classBytesRow : OpenClaim := { program := "ytgnoiifakipliaadoor", sum := "b7de4f5f815076f8119156c3617415403b2c5e86da04a20fdc7d0ff32354ada1", func := "tympan/tympanlaw02.ClassBytes", spec := "classBytes", inPlace := ["internal/abi.NoEscape", "internal/bytealg.MakeNoZero"], named := ["tympan/class.puncts", "unicode/utf8.first", "unicode/utf8.acceptRanges"], apart := false, laid := [("unicode/utf8.acceptRanges", laid_unicode_utf8_acceptRanges), ("tympan/class.puncts", laid_tympan_class_puncts), ("unicode/utf8.first", laid_unicode_utf8_first)] }
def ClassBytesSaid : Prop := classBytesRow.holds Tryd.pinned (OpenSpec.ofChange classBytesSpec)

/-- ITS FALSE NEIGHBOUR: 'it returns false'. Refute it at one input. -/
def classBytesWrong : ChangeSpec := { name := "classBytes", fn := fun _ => fun
  | [d] => { results := [.lit (.bool false)], args := [d] }
  | _ => none }
def ClassBytesWrongFalsely : Prop := classBytesRow.holds Tryd.pinned (OpenSpec.ofChange classBytesWrong)

/-- 'tympanlaw02.ClassRunes': WHATEVER THE INPUT: true; the input reads as it did. -/
def classRunesSpec : ChangeSpec := { name := "classRunes", fn := fun _ => fun
  | [d] => { results := [.lit (.bool true)], args := [d] }
  | _ => none }
def classRunesRow : OpenClaim := { program := "ytgnoiifakipliaadoor", sum := "b7de4f5f815076f8119156c3617415403b2c5e86da04a20fdc7d0ff32354ada1", func := "tympan/tympanlaw02.ClassRunes", spec := "classRunes", inPlace := ["internal/abi.NoEscape", "internal/bytealg.MakeNoZero"], named := ["tympan/class.puncts", "unicode/utf8.first", "unicode/utf8.acceptRanges"], apart := false, laid := [("unicode/utf8.acceptRanges", laid_unicode_utf8_acceptRanges), ("tympan/class.puncts", laid_tympan_class_puncts), ("unicode/utf8.first", laid_unicode_utf8_first)] }
def ClassRunesSaid : Prop := classRunesRow.holds Tryd.pinned (OpenSpec.ofChange classRunesSpec)

/-- ITS FALSE NEIGHBOUR: 'it returns false'. Refute it at one input. -/
def classRunesWrong : ChangeSpec := { name := "classRunes", fn := fun _ => fun
  | [d] => { results := [.lit (.bool false)], args := [d] }
  | _ => none }
def ClassRunesWrongFalsely : Prop := classRunesRow.holds Tryd.pinned (OpenSpec.ofChange classRunesWrong)

/-- 'tympanlaw02.ClassFolds': WHATEVER THE INPUT: true; the input reads as it did. -/
def classFoldsSpec : ChangeSpec := { name := "classFolds", fn := fun _ => fun
  | [d] => { results := [.lit (.bool true)], args := [d] }
  | _ => none }
def classFoldsRow : OpenClaim := { program := "ytgnoiifakipliaadoor", sum := "b7de4f5f815076f8119156c3617415403b2c5e86da04a20fdc7d0ff32354ada1", func := "tympan/tympanlaw02.ClassFolds", spec := "classFolds", inPlace := ["internal/abi.NoEscape", "internal/bytealg.MakeNoZero"], named := ["tympan/class.puncts", "unicode/utf8.first", "unicode/utf8.acceptRanges"], apart := false, laid := [("unicode/utf8.acceptRanges", laid_unicode_utf8_acceptRanges), ("tympan/class.puncts", laid_tympan_class_puncts), ("unicode/utf8.first", laid_unicode_utf8_first)] }
def ClassFoldsSaid : Prop := classFoldsRow.holds Tryd.pinned (OpenSpec.ofChange classFoldsSpec)

/-- ITS FALSE NEIGHBOUR: 'it returns false'. Refute it at one input. -/
def classFoldsWrong : ChangeSpec := { name := "classFolds", fn := fun _ => fun
  | [d] => { results := [.lit (.bool false)], args := [d] }
  | _ => none }
def ClassFoldsWrongFalsely : Prop := classFoldsRow.holds Tryd.pinned (OpenSpec.ofChange classFoldsWrong)

/-- 'tympanlaw02.ClassLowers': WHATEVER THE INPUT: true; the input reads as it did. -/
def classLowersSpec : ChangeSpec := { name := "classLowers", fn := fun _ => fun
  | [d] => { results := [.lit (.bool true)], args := [d] }
  | _ => none }
def classLowersRow : OpenClaim := { program := "ytgnoiifakipliaadoor", sum := "b7de4f5f815076f8119156c3617415403b2c5e86da04a20fdc7d0ff32354ada1", func := "tympan/tympanlaw02.ClassLowers", spec := "classLowers", inPlace := ["internal/abi.NoEscape", "internal/bytealg.MakeNoZero"], named := ["tympan/class.puncts", "unicode/utf8.first", "unicode/utf8.acceptRanges"], apart := false, laid := [("unicode/utf8.acceptRanges", laid_unicode_utf8_acceptRanges), ("tympan/class.puncts", laid_tympan_class_puncts), ("unicode/utf8.first", laid_unicode_utf8_first)] }
def ClassLowersSaid : Prop := classLowersRow.holds Tryd.pinned (OpenSpec.ofChange classLowersSpec)

/-- ITS FALSE NEIGHBOUR: 'it returns false'. Refute it at one input. -/
def classLowersWrong : ChangeSpec := { name := "classLowers", fn := fun _ => fun
  | [d] => { results := [.lit (.bool false)], args := [d] }
  | _ => none }
def ClassLowersWrongFalsely : Prop := classLowersRow.holds Tryd.pinned (OpenSpec.ofChange classLowersWrong)

/-- 'tympanlaw02.ClassAround': WHATEVER THE INPUT: true; the input reads as it did. -/
def classAroundSpec : ChangeSpec := { name := "classAround", fn := fun _ => fun
  | [d1, d2] => { results := [.lit (.bool true)], args := [d1, d2] }
  | _ => none }
def classAroundRow : OpenClaim := { program := "ytgnoiifakipliaadoor", sum := "b7de4f5f815076f8119156c3617415403b2c5e86da04a20fdc7d0ff32354ada1", func := "tympan/tympanlaw02.ClassAround", spec := "classAround", inPlace := ["internal/abi.NoEscape", "internal/bytealg.MakeNoZero"], named := ["tympan/class.puncts", "unicode/utf8.first", "unicode/utf8.acceptRanges"], apart := false, laid := [("unicode/utf8.acceptRanges", laid_unicode_utf8_acceptRanges), ("tympan/class.puncts", laid_tympan_class_puncts), ("unicode/utf8.first", laid_unicode_utf8_first)] }
def ClassAroundSaid : Prop := classAroundRow.holds Tryd.pinned (OpenSpec.ofChange classAroundSpec)

/-- ITS FALSE NEIGHBOUR: 'it returns false'. Refute it at one input. -/
def classAroundWrong : ChangeSpec := { name := "classAround", fn := fun _ => fun
  | [d1, d2] => { results := [.lit (.bool false)], args := [d1, d2] }
  | _ => none }
def ClassAroundWrongFalsely : Prop := classAroundRow.holds Tryd.pinned (OpenSpec.ofChange classAroundWrong)

/- THE SECOND FORM. 'bulk': how many values and letters a reading holds, each counted each time it is reached (what is shared counts as often as it is met; a slice's spare places count too). A statement '..UptoSaid' is the law's where the arguments, and the package variables that the reading takes, are together of bulk at most 1048576: NARROWER than '..Said'. Prove '..Said' where nothing that the law and all that it calls make is longer than what came in: it says more and counts as full. Else prove '..UptoSaid'. A law counts once. -/
mutual
def uptoBulk {H : Type} : DataW H → Nat
  | .lit (.string bytes) => bytes.length + 1
  | .lit _ => 1
  | .nil => 1
  | .ptr d => uptoBulk d + 1
  | .slice elems spare => uptoBulkAll elems + uptoBulkAll spare + 1
  | .agg parts => uptoBulkAll parts + 1
  | .iface _ d => uptoBulk d + 1
  | .map entries => uptoBulkEntries entries + 1
  | .held _ => 1
def uptoBulkAll {H : Type} : List (DataW H) → Nat
  | [] => 0
  | d :: r => uptoBulk d + uptoBulkAll r
def uptoBulkEntries {H : Type} : List (Lit × DataW H) → Nat
  | [] => 0
  | x :: r => uptoBulkEntry x + uptoBulkEntries r
def uptoBulkEntry {H : Type} : Lit × DataW H → Nat
  | (.string bytes, d) => bytes.length + uptoBulk d + 1
  | (_, d) => uptoBulk d + 1
 end
def uptoSmall : (H : Type) → List (DataW H) → Bool := fun _ ds => decide (uptoBulkAll ds ≤ 1048576)
def OpenSpec.upto (s : _root_.Go.ChangeSpec) : _root_.Go.OpenSpec := { _root_.Go.OpenSpec.ofChange s with cond := some uptoSmall }

/-- 'tympanlaw02.ClassBytes', WHERE WHAT IT READS IS OF BULK AT MOST 1048576: true; the input reads as it did. -/
def classBytesUptoRow : OpenClaim := { program := "ytgnoiifakipliaadoor", sum := "b7de4f5f815076f8119156c3617415403b2c5e86da04a20fdc7d0ff32354ada1", func := "tympan/tympanlaw02.ClassBytes", spec := "classBytes", inPlace := ["internal/abi.NoEscape", "internal/bytealg.MakeNoZero"], named := ["tympan/class.puncts", "unicode/utf8.first", "unicode/utf8.acceptRanges"], apart := false, laid := [("unicode/utf8.acceptRanges", laid_unicode_utf8_acceptRanges), ("tympan/class.puncts", laid_tympan_class_puncts), ("unicode/utf8.first", laid_unicode_utf8_first)], narrowed := true }
def ClassBytesUptoSaid : Prop := classBytesUptoRow.holds Tryd.pinned (OpenSpec.upto classBytesSpec)

/-- 'tympanlaw02.ClassRunes', WHERE WHAT IT READS IS OF BULK AT MOST 1048576: true; the input reads as it did. -/
def classRunesUptoRow : OpenClaim := { program := "ytgnoiifakipliaadoor", sum := "b7de4f5f815076f8119156c3617415403b2c5e86da04a20fdc7d0ff32354ada1", func := "tympan/tympanlaw02.ClassRunes", spec := "classRunes", inPlace := ["internal/abi.NoEscape", "internal/bytealg.MakeNoZero"], named := ["tympan/class.puncts", "unicode/utf8.first", "unicode/utf8.acceptRanges"], apart := false, laid := [("unicode/utf8.acceptRanges", laid_unicode_utf8_acceptRanges), ("tympan/class.puncts", laid_tympan_class_puncts), ("unicode/utf8.first", laid_unicode_utf8_first)], narrowed := true }
def ClassRunesUptoSaid : Prop := classRunesUptoRow.holds Tryd.pinned (OpenSpec.upto classRunesSpec)

/-- 'tympanlaw02.ClassFolds', WHERE WHAT IT READS IS OF BULK AT MOST 1048576: true; the input reads as it did. -/
def classFoldsUptoRow : OpenClaim := { program := "ytgnoiifakipliaadoor", sum := "b7de4f5f815076f8119156c3617415403b2c5e86da04a20fdc7d0ff32354ada1", func := "tympan/tympanlaw02.ClassFolds", spec := "classFolds", inPlace := ["internal/abi.NoEscape", "internal/bytealg.MakeNoZero"], named := ["tympan/class.puncts", "unicode/utf8.first", "unicode/utf8.acceptRanges"], apart := false, laid := [("unicode/utf8.acceptRanges", laid_unicode_utf8_acceptRanges), ("tympan/class.puncts", laid_tympan_class_puncts), ("unicode/utf8.first", laid_unicode_utf8_first)], narrowed := true }
def ClassFoldsUptoSaid : Prop := classFoldsUptoRow.holds Tryd.pinned (OpenSpec.upto classFoldsSpec)

/-- 'tympanlaw02.ClassLowers', WHERE WHAT IT READS IS OF BULK AT MOST 1048576: true; the input reads as it did. -/
def classLowersUptoRow : OpenClaim := { program := "ytgnoiifakipliaadoor", sum := "b7de4f5f815076f8119156c3617415403b2c5e86da04a20fdc7d0ff32354ada1", func := "tympan/tympanlaw02.ClassLowers", spec := "classLowers", inPlace := ["internal/abi.NoEscape", "internal/bytealg.MakeNoZero"], named := ["tympan/class.puncts", "unicode/utf8.first", "unicode/utf8.acceptRanges"], apart := false, laid := [("unicode/utf8.acceptRanges", laid_unicode_utf8_acceptRanges), ("tympan/class.puncts", laid_tympan_class_puncts), ("unicode/utf8.first", laid_unicode_utf8_first)], narrowed := true }
def ClassLowersUptoSaid : Prop := classLowersUptoRow.holds Tryd.pinned (OpenSpec.upto classLowersSpec)

/-- 'tympanlaw02.ClassAround', WHERE WHAT IT READS IS OF BULK AT MOST 1048576: true; the input reads as it did. -/
def classAroundUptoRow : OpenClaim := { program := "ytgnoiifakipliaadoor", sum := "b7de4f5f815076f8119156c3617415403b2c5e86da04a20fdc7d0ff32354ada1", func := "tympan/tympanlaw02.ClassAround", spec := "classAround", inPlace := ["internal/abi.NoEscape", "internal/bytealg.MakeNoZero"], named := ["tympan/class.puncts", "unicode/utf8.first", "unicode/utf8.acceptRanges"], apart := false, laid := [("unicode/utf8.acceptRanges", laid_unicode_utf8_acceptRanges), ("tympan/class.puncts", laid_tympan_class_puncts), ("unicode/utf8.first", laid_unicode_utf8_first)], narrowed := true }
def ClassAroundUptoSaid : Prop := classAroundUptoRow.holds Tryd.pinned (OpenSpec.upto classAroundSpec)

end Rows
end Go.Proofs.YtgnoiifakipliaaDoor
