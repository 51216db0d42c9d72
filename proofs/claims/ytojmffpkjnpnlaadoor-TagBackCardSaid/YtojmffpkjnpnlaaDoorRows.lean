/-
  NARROWER THAN 'FOR EVERY INPUT', by the rows' own cells (each row's printed sentence says how): TagReads: laid · TagAll: laid · TagBack: laid · TagForms: laid · TagSize: laid.
  DERIVED. THE GIVEN ROWS OF THIS SEAT. 5 by the template 'for every input the law returns true; each argument reads behind the call as it read before'; 0 by the template 'total and deterministic' (their statements: YtojmffpkjnpnlaaDoorTotals.lean).
  GIVEN WITH THE SEED: the statements are not yours to turn. If you find one false, say at which input.
  Laid BY PROGRAM, IN A SANDBOX (cutbox-rows.mjs): the forced cells as the released guide's own fill.sh prints them over the translation 94b56cf2a26caadd… (all of the seat's roots in one cut). By AI agents, Wed Nov 11 2026. No macro, syntax, notation, axiom, sorry.
-/
import Derived.Test.YtojmffpkjnpnlaaDoorChecked
import GoSem.Claim
import GoSem.ClaimJoined
import GoSem.ClaimMapViews
import Derived.JoinedTies
import Derived.KernelRfl
namespace Go.Proofs.YtojmffpkjnpnlaaDoor
/- THE CELL 'sum', in the pinned program and in every row, IS THE sha256 OF THE DUMP (.gsa) THAT YtojmffpkjnpnlaaDoorProg.lean LOADS. Nothing in Lean hashes anything: it is a label: what it is worth is what the hold of that sum in a sandbox is worth. -/
noncomputable def Tryd.pinned : Pinned := { name := "ytojmffpkjnpnlaadoor", sum := "94b56cf2a26caadd4a94c1279f0d84825b80a444016a259159cc4bb00d4bbf8e", checked := Tryd.checked }
namespace Rows
def none {H : Type} : Left H := { results := [], args := [] }

/- WHAT THE LISTED PACKAGE-LEVEL VARIABLES READ AS WHEN THE CALL BEGINS. Each datum BY PROGRAM (the guide's laid-datum.mjs) off the statement by which the dump's own 'gosem.cut.vars' lays the variable. In a bare row this is a premise. The card (YtojmffpkjnpnlaaDoorCards.lean) ties it to the program's text. -/
def laid_tympan_ent_controls {H : Type} : DataW H := .agg [.lit (.int .i32 8364), .lit (.int .i32 129), .lit (.int .i32 8218), .lit (.int .i32 402), .lit (.int .i32 8222), .lit (.int .i32 8230), .lit (.int .i32 8224), .lit (.int .i32 8225), .lit (.int .i32 710), .lit (.int .i32 8240), .lit (.int .i32 352), .lit (.int .i32 8249), .lit (.int .i32 338), .lit (.int .i32 141), .lit (.int .i32 381), .lit (.int .i32 143), .lit (.int .i32 144), .lit (.int .i32 8216), .lit (.int .i32 8217), .lit (.int .i32 8220), .lit (.int .i32 8221), .lit (.int .i32 8226), .lit (.int .i32 8211), .lit (.int .i32 8212), .lit (.int .i32 732), .lit (.int .i32 8482), .lit (.int .i32 353), .lit (.int .i32 8250), .lit (.int .i32 339), .lit (.int .i32 157), .lit (.int .i32 382), .lit (.int .i32 376)]

/-- 'tympanlaw06.TagReads': WHATEVER THE INPUT: true; the input reads as it did. -/
def tagReadsSpec : ChangeSpec := { name := "tagReads", fn := fun _ => fun
  | [d1, d2] => { results := [.lit (.bool true)], args := [d1, d2] }
  | _ => none }
def tagReadsRow : OpenClaim := { program := "ytojmffpkjnpnlaadoor", sum := "94b56cf2a26caadd4a94c1279f0d84825b80a444016a259159cc4bb00d4bbf8e", func := "tympan/tympanlaw06.TagReads", spec := "tagReads", inPlace := ["internal/bytealg.IndexByteString", "internal/abi.NoEscape", "internal/bytealg.MakeNoZero", "internal/bytealg.IndexString"], unfollowed := true, recurses := true, named := ["internal/bytealg.MaxLen", "tympan/ent.controls"], apart := false, laid := [("tympan/ent.controls", laid_tympan_ent_controls)] }
def TagReadsSaid : Prop := tagReadsRow.holds Tryd.pinned (OpenSpec.ofChange tagReadsSpec)

/-- ITS FALSE NEIGHBOUR: 'it returns false'. Refute it at one input. -/
def tagReadsWrong : ChangeSpec := { name := "tagReads", fn := fun _ => fun
  | [d1, d2] => { results := [.lit (.bool false)], args := [d1, d2] }
  | _ => none }
def TagReadsWrongFalsely : Prop := tagReadsRow.holds Tryd.pinned (OpenSpec.ofChange tagReadsWrong)

/-- 'tympanlaw06.TagAll': WHATEVER THE INPUT: true; the input reads as it did. -/
def tagAllSpec : ChangeSpec := { name := "tagAll", fn := fun _ => fun
  | [d] => { results := [.lit (.bool true)], args := [d] }
  | _ => none }
def tagAllRow : OpenClaim := { program := "ytojmffpkjnpnlaadoor", sum := "94b56cf2a26caadd4a94c1279f0d84825b80a444016a259159cc4bb00d4bbf8e", func := "tympan/tympanlaw06.TagAll", spec := "tagAll", inPlace := ["internal/bytealg.IndexByteString", "internal/abi.NoEscape", "internal/bytealg.MakeNoZero", "internal/bytealg.IndexString"], unfollowed := true, recurses := true, named := ["internal/bytealg.MaxLen", "tympan/ent.controls"], apart := false, laid := [("tympan/ent.controls", laid_tympan_ent_controls)] }
def TagAllSaid : Prop := tagAllRow.holds Tryd.pinned (OpenSpec.ofChange tagAllSpec)

/-- ITS FALSE NEIGHBOUR: 'it returns false'. Refute it at one input. -/
def tagAllWrong : ChangeSpec := { name := "tagAll", fn := fun _ => fun
  | [d] => { results := [.lit (.bool false)], args := [d] }
  | _ => none }
def TagAllWrongFalsely : Prop := tagAllRow.holds Tryd.pinned (OpenSpec.ofChange tagAllWrong)

/-- 'tympanlaw06.TagBack': WHATEVER THE INPUT: true; the input reads as it did. -/
def tagBackSpec : ChangeSpec := { name := "tagBack", fn := fun _ => fun
  | [d1, d2, d3] => { results := [.lit (.bool true)], args := [d1, d2, d3] }
  | _ => none }
def tagBackRow : OpenClaim := { program := "ytojmffpkjnpnlaadoor", sum := "94b56cf2a26caadd4a94c1279f0d84825b80a444016a259159cc4bb00d4bbf8e", func := "tympan/tympanlaw06.TagBack", spec := "tagBack", inPlace := ["internal/bytealg.IndexByteString", "internal/abi.NoEscape", "internal/bytealg.MakeNoZero", "internal/bytealg.IndexString"], unfollowed := true, recurses := true, named := ["internal/bytealg.MaxLen", "tympan/ent.controls"], apart := false, laid := [("tympan/ent.controls", laid_tympan_ent_controls)] }
def TagBackSaid : Prop := tagBackRow.holds Tryd.pinned (OpenSpec.ofChange tagBackSpec)

/-- ITS FALSE NEIGHBOUR: 'it returns false'. Refute it at one input. -/
def tagBackWrong : ChangeSpec := { name := "tagBack", fn := fun _ => fun
  | [d1, d2, d3] => { results := [.lit (.bool false)], args := [d1, d2, d3] }
  | _ => none }
def TagBackWrongFalsely : Prop := tagBackRow.holds Tryd.pinned (OpenSpec.ofChange tagBackWrong)

/-- 'tympanlaw06.TagForms': WHATEVER THE INPUT: true; the input reads as it did. -/
def tagFormsSpec : ChangeSpec := { name := "tagForms", fn := fun _ => fun
  | [d1, d2] => { results := [.lit (.bool true)], args := [d1, d2] }
  | _ => none }
def tagFormsRow : OpenClaim := { program := "ytojmffpkjnpnlaadoor", sum := "94b56cf2a26caadd4a94c1279f0d84825b80a444016a259159cc4bb00d4bbf8e", func := "tympan/tympanlaw06.TagForms", spec := "tagForms", inPlace := ["internal/bytealg.IndexByteString", "internal/abi.NoEscape", "internal/bytealg.MakeNoZero", "internal/bytealg.IndexString"], unfollowed := true, recurses := true, named := ["internal/bytealg.MaxLen", "tympan/ent.controls"], apart := false, laid := [("tympan/ent.controls", laid_tympan_ent_controls)] }
def TagFormsSaid : Prop := tagFormsRow.holds Tryd.pinned (OpenSpec.ofChange tagFormsSpec)

/-- ITS FALSE NEIGHBOUR: 'it returns false'. Refute it at one input. -/
def tagFormsWrong : ChangeSpec := { name := "tagForms", fn := fun _ => fun
  | [d1, d2] => { results := [.lit (.bool false)], args := [d1, d2] }
  | _ => none }
def TagFormsWrongFalsely : Prop := tagFormsRow.holds Tryd.pinned (OpenSpec.ofChange tagFormsWrong)

/-- 'tympanlaw06.TagSize': WHATEVER THE INPUT: true; the input reads as it did. -/
def tagSizeSpec : ChangeSpec := { name := "tagSize", fn := fun _ => fun
  | [d1, d2] => { results := [.lit (.bool true)], args := [d1, d2] }
  | _ => none }
def tagSizeRow : OpenClaim := { program := "ytojmffpkjnpnlaadoor", sum := "94b56cf2a26caadd4a94c1279f0d84825b80a444016a259159cc4bb00d4bbf8e", func := "tympan/tympanlaw06.TagSize", spec := "tagSize", inPlace := ["internal/bytealg.IndexByteString", "internal/abi.NoEscape", "internal/bytealg.MakeNoZero", "internal/bytealg.IndexString"], unfollowed := true, recurses := true, named := ["internal/bytealg.MaxLen", "tympan/ent.controls"], apart := false, laid := [("tympan/ent.controls", laid_tympan_ent_controls)] }
def TagSizeSaid : Prop := tagSizeRow.holds Tryd.pinned (OpenSpec.ofChange tagSizeSpec)

/-- ITS FALSE NEIGHBOUR: 'it returns false'. Refute it at one input. -/
def tagSizeWrong : ChangeSpec := { name := "tagSize", fn := fun _ => fun
  | [d1, d2] => { results := [.lit (.bool false)], args := [d1, d2] }
  | _ => none }
def TagSizeWrongFalsely : Prop := tagSizeRow.holds Tryd.pinned (OpenSpec.ofChange tagSizeWrong)

/- THE SECOND FORM. 'bulk': how many values and letters a reading holds, each counted each time it is reached (what is shared counts as often as it is met; a slice's spare places count too). A statement '..UptoSaid' is the law's where the arguments, and the package variables that the reading takes, are together of bulk at most 1048576: NARROWER than '..Said'. Prove '..Said' where nothing that the law and all that it calls make is longer than what came in: it says more and counts as full. Else prove '..UptoSaid'. A law counts once. -/
mutual
def uptoBulk {H : Type} : DataW H → Nat
  | .lit (.string bytes) => bytes.length + 1
  | .lit _ => 1
  | .nil => 1
  | .ptr d => uptoBulk d + 1
  | .slice elems spare => uptoBulkAll elems + uptoBulkAll spare + 1
  | .agg parts => uptoBulkAll parts + 1
  | .iface _ d => uptoBulk d + 1
  | .map entries => uptoBulkEntries entries + 1
  | .held _ => 1
def uptoBulkAll {H : Type} : List (DataW H) → Nat
  | [] => 0
  | d :: r => uptoBulk d + uptoBulkAll r
def uptoBulkEntries {H : Type} : List (Lit × DataW H) → Nat
  | [] => 0
  | x :: r => uptoBulkEntry x + uptoBulkEntries r
def uptoBulkEntry {H : Type} : Lit × DataW H → Nat
  | (.string bytes, d) => bytes.length + uptoBulk d + 1
  | (_, d) => uptoBulk d + 1
 end
def uptoSmall : (H : Type) → List (DataW H) → Bool := fun _ ds => decide (uptoBulkAll ds ≤ 1048576)
def OpenSpec.upto (s : _root_.Go.ChangeSpec) : _root_.Go.OpenSpec := { _root_.Go.OpenSpec.ofChange s with cond := some uptoSmall }

/-- 'tympanlaw06.TagReads', WHERE WHAT IT READS IS OF BULK AT MOST 1048576: true; the input reads as it did. -/
def tagReadsUptoRow : OpenClaim := { program := "ytojmffpkjnpnlaadoor", sum := "94b56cf2a26caadd4a94c1279f0d84825b80a444016a259159cc4bb00d4bbf8e", func := "tympan/tympanlaw06.TagReads", spec := "tagReads", inPlace := ["internal/bytealg.IndexByteString", "internal/abi.NoEscape", "internal/bytealg.MakeNoZero", "internal/bytealg.IndexString"], unfollowed := true, recurses := true, named := ["internal/bytealg.MaxLen", "tympan/ent.controls"], apart := false, laid := [("tympan/ent.controls", laid_tympan_ent_controls)], narrowed := true }
def TagReadsUptoSaid : Prop := tagReadsUptoRow.holds Tryd.pinned (OpenSpec.upto tagReadsSpec)

/-- 'tympanlaw06.TagAll', WHERE WHAT IT READS IS OF BULK AT MOST 1048576: true; the input reads as it did. -/
def tagAllUptoRow : OpenClaim := { program := "ytojmffpkjnpnlaadoor", sum := "94b56cf2a26caadd4a94c1279f0d84825b80a444016a259159cc4bb00d4bbf8e", func := "tympan/tympanlaw06.TagAll", spec := "tagAll", inPlace := ["internal/bytealg.IndexByteString", "internal/abi.NoEscape", "internal/bytealg.MakeNoZero", "internal/bytealg.IndexString"], unfollowed := true, recurses := true, named := ["internal/bytealg.MaxLen", "tympan/ent.controls"], apart := false, laid := [("tympan/ent.controls", laid_tympan_ent_controls)], narrowed := true }
def TagAllUptoSaid : Prop := tagAllUptoRow.holds Tryd.pinned (OpenSpec.upto tagAllSpec)

/-- 'tympanlaw06.TagBack', WHERE WHAT IT READS IS OF BULK AT MOST 1048576: true; the input reads as it did. -/
def tagBackUptoRow : OpenClaim := { program := "ytojmffpkjnpnlaadoor", sum := "94b56cf2a26caadd4a94c1279f0d84825b80a444016a259159cc4bb00d4bbf8e", func := "tympan/tympanlaw06.TagBack", spec := "tagBack", inPlace := ["internal/bytealg.IndexByteString", "internal/abi.NoEscape", "internal/bytealg.MakeNoZero", "internal/bytealg.IndexString"], unfollowed := true, recurses := true, named := ["internal/bytealg.MaxLen", "tympan/ent.controls"], apart := false, laid := [("tympan/ent.controls", laid_tympan_ent_controls)], narrowed := true }
def TagBackUptoSaid : Prop := tagBackUptoRow.holds Tryd.pinned (OpenSpec.upto tagBackSpec)

/-- 'tympanlaw06.TagForms', WHERE WHAT IT READS IS OF BULK AT MOST 1048576: true; the input reads as it did. -/
def tagFormsUptoRow : OpenClaim := { program := "ytojmffpkjnpnlaadoor", sum := "94b56cf2a26caadd4a94c1279f0d84825b80a444016a259159cc4bb00d4bbf8e", func := "tympan/tympanlaw06.TagForms", spec := "tagForms", inPlace := ["internal/bytealg.IndexByteString", "internal/abi.NoEscape", "internal/bytealg.MakeNoZero", "internal/bytealg.IndexString"], unfollowed := true, recurses := true, named := ["internal/bytealg.MaxLen", "tympan/ent.controls"], apart := false, laid := [("tympan/ent.controls", laid_tympan_ent_controls)], narrowed := true }
def TagFormsUptoSaid : Prop := tagFormsUptoRow.holds Tryd.pinned (OpenSpec.upto tagFormsSpec)

/-- 'tympanlaw06.TagSize', WHERE WHAT IT READS IS OF BULK AT MOST 1048576: true; the input reads as it did. -/
def tagSizeUptoRow : OpenClaim := { program := "ytojmffpkjnpnlaadoor", sum := "94b56cf2a26caadd4a94c1279f0d84825b80a444016a259159cc4bb00d4bbf8e", func := "tympan/tympanlaw06.TagSize", spec := "tagSize", inPlace := ["internal/bytealg.IndexByteString", "internal/abi.NoEscape", "internal/bytealg.MakeNoZero", "internal/bytealg.IndexString"], unfollowed := true, recurses := true, named := ["internal/bytealg.MaxLen", "tympan/ent.controls"], apart := false, laid := [("tympan/ent.controls", laid_tympan_ent_controls)], narrowed := true }
def TagSizeUptoSaid : Prop := tagSizeUptoRow.holds Tryd.pinned (OpenSpec.upto tagSizeSpec)

end Rows
end Go.Proofs.YtojmffpkjnpnlaaDoor
