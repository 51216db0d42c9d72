/-
  NARROWER THAN 'FOR EVERY INPUT', by the rows' own cells (each row's printed sentence says how): LexNext: laid · LexAll: laid.
  DERIVED. THE GIVEN ROWS OF THIS SEAT. 2 by the template 'for every input the law returns true; each argument reads behind the call as it read before'; 0 by the template 'total and deterministic' (their statements: YtgldgdopabmefaaGreatDoorTotals.lean).
  GIVEN WITH THE SEED: the statements are not yours to turn. If you find one false, say at which input.
  Laid BY PROGRAM, IN A SANDBOX (cutbox-rows.mjs): the forced cells as the released guide's own fill.sh prints them over the translation 36f00fa80089373c… (all of the seat's roots in one cut). By AI agents, Wed Nov 11 2026. No macro, syntax, notation, axiom, sorry.
-/
import Derived.Test.YtgldgdopabmefaaGreatDoorChecked
import GoSem.Claim
import GoSem.ClaimJoined
import GoSem.ClaimMapViews
import Derived.JoinedTies
import Derived.KernelRfl
namespace Go.Proofs.YtgldgdopabmefaaGreatDoor
/- THE CELL 'sum', in the pinned program and in every row, IS THE sha256 OF THE DUMP (.gsa) THAT YtgldgdopabmefaaGreatDoorProg.lean LOADS. Nothing in Lean hashes anything: it is a label: what it is worth is what the hold of that sum in a sandbox is worth. -/
noncomputable def Tryz.pinned : Pinned := { name := "ytgldgdopabmefaagreatdoor", sum := "36f00fa80089373cc1313ccdbabd37ff0c5625790e07ec404da1ba50761c5c44", checked := Tryz.checked }
namespace Rows
def none {H : Type} : Left H := { results := [], args := [] }

/- WHAT THE LISTED PACKAGE-LEVEL VARIABLES READ AS WHEN THE CALL BEGINS. Each datum BY PROGRAM (the guide's laid-datum.mjs) off the statement by which the dump's own 'gosem.cut.vars' lays the variable. In a bare row this is a premise. The card (YtgldgdopabmefaaGreatDoorCards.lean) ties it to the program's text. -/
def laid_tympan_ent_controls {H : Type} : DataW H := .agg [.lit (.int .i32 8364), .lit (.int .i32 129), .lit (.int .i32 8218), .lit (.int .i32 402), .lit (.int .i32 8222), .lit (.int .i32 8230), .lit (.int .i32 8224), .lit (.int .i32 8225), .lit (.int .i32 710), .lit (.int .i32 8240), .lit (.int .i32 352), .lit (.int .i32 8249), .lit (.int .i32 338), .lit (.int .i32 141), .lit (.int .i32 381), .lit (.int .i32 143), .lit (.int .i32 144), .lit (.int .i32 8216), .lit (.int .i32 8217), .lit (.int .i32 8220), .lit (.int .i32 8221), .lit (.int .i32 8226), .lit (.int .i32 8211), .lit (.int .i32 8212), .lit (.int .i32 732), .lit (.int .i32 8482), .lit (.int .i32 353), .lit (.int .i32 8250), .lit (.int .i32 339), .lit (.int .i32 157), .lit (.int .i32 382), .lit (.int .i32 376)]
def laid_tympan_note_shorts {H : Type} : DataW H := .agg [.lit (.string [62]), .lit (.string [45, 62])]
def laid_tympan_note_closes {H : Type} : DataW H := .agg [.lit (.string [45, 45]), .lit (.string [45, 45, 33])]
def laid_tympan_note_lefts {H : Type} : DataW H := .agg [.lit (.string [45, 45, 33]), .lit (.string [45, 45]), .lit (.string [45])]

/-- 'tympanlaw09.LexNext': WHATEVER THE INPUT: true; the input reads as it did. -/
def lexNextSpec : ChangeSpec := { name := "lexNext", fn := fun _ => fun
  | [d1, d2, d3, d4, d5] => { results := [.lit (.bool true)], args := [d1, d2, d3, d4, d5] }
  | _ => none }
def lexNextRow : OpenClaim := { program := "ytgldgdopabmefaagreatdoor", sum := "36f00fa80089373cc1313ccdbabd37ff0c5625790e07ec404da1ba50761c5c44", func := "tympan/tympanlaw09.LexNext", spec := "lexNext", inPlace := ["internal/bytealg.CountString", "internal/bytealg.IndexByteString", "internal/bytealg.IndexString", "internal/abi.NoEscape", "internal/bytealg.MakeNoZero"], unfollowed := true, recurses := true, named := ["internal/bytealg.MaxLen", "tympan/ent.controls", "tympan/note.shorts", "tympan/note.closes", "tympan/note.lefts"], apart := false, laid := [("tympan/ent.controls", laid_tympan_ent_controls), ("tympan/note.shorts", laid_tympan_note_shorts), ("tympan/note.closes", laid_tympan_note_closes), ("tympan/note.lefts", laid_tympan_note_lefts)] }
def LexNextSaid : Prop := lexNextRow.holds Tryz.pinned (OpenSpec.ofChange lexNextSpec)

/-- ITS FALSE NEIGHBOUR: 'it returns false'. Refute it at one input. -/
def lexNextWrong : ChangeSpec := { name := "lexNext", fn := fun _ => fun
  | [d1, d2, d3, d4, d5] => { results := [.lit (.bool false)], args := [d1, d2, d3, d4, d5] }
  | _ => none }
def LexNextWrongFalsely : Prop := lexNextRow.holds Tryz.pinned (OpenSpec.ofChange lexNextWrong)

/-- 'tympanlaw09.LexAll': WHATEVER THE INPUT: true; the input reads as it did. -/
def lexAllSpec : ChangeSpec := { name := "lexAll", fn := fun _ => fun
  | [d] => { results := [.lit (.bool true)], args := [d] }
  | _ => none }
def lexAllRow : OpenClaim := { program := "ytgldgdopabmefaagreatdoor", sum := "36f00fa80089373cc1313ccdbabd37ff0c5625790e07ec404da1ba50761c5c44", func := "tympan/tympanlaw09.LexAll", spec := "lexAll", inPlace := ["internal/bytealg.CountString", "internal/bytealg.IndexByteString", "internal/bytealg.IndexString", "internal/abi.NoEscape", "internal/bytealg.MakeNoZero"], unfollowed := true, recurses := true, named := ["internal/bytealg.MaxLen", "tympan/ent.controls", "tympan/note.shorts", "tympan/note.closes", "tympan/note.lefts"], apart := false, laid := [("tympan/ent.controls", laid_tympan_ent_controls), ("tympan/note.shorts", laid_tympan_note_shorts), ("tympan/note.closes", laid_tympan_note_closes), ("tympan/note.lefts", laid_tympan_note_lefts)] }
def LexAllSaid : Prop := lexAllRow.holds Tryz.pinned (OpenSpec.ofChange lexAllSpec)

/-- ITS FALSE NEIGHBOUR: 'it returns false'. Refute it at one input. -/
def lexAllWrong : ChangeSpec := { name := "lexAll", fn := fun _ => fun
  | [d] => { results := [.lit (.bool false)], args := [d] }
  | _ => none }
def LexAllWrongFalsely : Prop := lexAllRow.holds Tryz.pinned (OpenSpec.ofChange lexAllWrong)

/- THE SECOND FORM. 'bulk': how many values and letters a reading holds, each counted each time it is reached (what is shared counts as often as it is met; a slice's spare places count too). A statement '..UptoSaid' is the law's where the arguments, and the package variables that the reading takes, are together of bulk at most 1048576: NARROWER than '..Said'. Prove '..Said' where nothing that the law and all that it calls make is longer than what came in: it says more and counts as full. Else prove '..UptoSaid'. A law counts once. -/
mutual
def uptoBulk {H : Type} : DataW H → Nat
  | .lit (.string bytes) => bytes.length + 1
  | .lit _ => 1
  | .nil => 1
  | .ptr d => uptoBulk d + 1
  | .slice elems spare => uptoBulkAll elems + uptoBulkAll spare + 1
  | .agg parts => uptoBulkAll parts + 1
  | .iface _ d => uptoBulk d + 1
  | .map entries => uptoBulkEntries entries + 1
  | .held _ => 1
def uptoBulkAll {H : Type} : List (DataW H) → Nat
  | [] => 0
  | d :: r => uptoBulk d + uptoBulkAll r
def uptoBulkEntries {H : Type} : List (Lit × DataW H) → Nat
  | [] => 0
  | x :: r => uptoBulkEntry x + uptoBulkEntries r
def uptoBulkEntry {H : Type} : Lit × DataW H → Nat
  | (.string bytes, d) => bytes.length + uptoBulk d + 1
  | (_, d) => uptoBulk d + 1
 end
def uptoSmall : (H : Type) → List (DataW H) → Bool := fun _ ds => decide (uptoBulkAll ds ≤ 1048576)
def OpenSpec.upto (s : _root_.Go.ChangeSpec) : _root_.Go.OpenSpec := { _root_.Go.OpenSpec.ofChange s with cond := some uptoSmall }

/-- 'tympanlaw09.LexNext', WHERE WHAT IT READS IS OF BULK AT MOST 1048576: true; the input reads as it did. -/
def lexNextUptoRow : OpenClaim := { program := "ytgldgdopabmefaagreatdoor", sum := "36f00fa80089373cc1313ccdbabd37ff0c5625790e07ec404da1ba50761c5c44", func := "tympan/tympanlaw09.LexNext", spec := "lexNext", inPlace := ["internal/bytealg.CountString", "internal/bytealg.IndexByteString", "internal/bytealg.IndexString", "internal/abi.NoEscape", "internal/bytealg.MakeNoZero"], unfollowed := true, recurses := true, named := ["internal/bytealg.MaxLen", "tympan/ent.controls", "tympan/note.shorts", "tympan/note.closes", "tympan/note.lefts"], apart := false, laid := [("tympan/ent.controls", laid_tympan_ent_controls), ("tympan/note.shorts", laid_tympan_note_shorts), ("tympan/note.closes", laid_tympan_note_closes), ("tympan/note.lefts", laid_tympan_note_lefts)], narrowed := true }
def LexNextUptoSaid : Prop := lexNextUptoRow.holds Tryz.pinned (OpenSpec.upto lexNextSpec)

/-- 'tympanlaw09.LexAll', WHERE WHAT IT READS IS OF BULK AT MOST 1048576: true; the input reads as it did. -/
def lexAllUptoRow : OpenClaim := { program := "ytgldgdopabmefaagreatdoor", sum := "36f00fa80089373cc1313ccdbabd37ff0c5625790e07ec404da1ba50761c5c44", func := "tympan/tympanlaw09.LexAll", spec := "lexAll", inPlace := ["internal/bytealg.CountString", "internal/bytealg.IndexByteString", "internal/bytealg.IndexString", "internal/abi.NoEscape", "internal/bytealg.MakeNoZero"], unfollowed := true, recurses := true, named := ["internal/bytealg.MaxLen", "tympan/ent.controls", "tympan/note.shorts", "tympan/note.closes", "tympan/note.lefts"], apart := false, laid := [("tympan/ent.controls", laid_tympan_ent_controls), ("tympan/note.shorts", laid_tympan_note_shorts), ("tympan/note.closes", laid_tympan_note_closes), ("tympan/note.lefts", laid_tympan_note_lefts)], narrowed := true }
def LexAllUptoSaid : Prop := lexAllUptoRow.holds Tryz.pinned (OpenSpec.upto lexAllSpec)

end Rows
end Go.Proofs.YtgldgdopabmefaaGreatDoor
