/-
  NARROWER THAN 'FOR EVERY INPUT', by the rows' own cells (each row's printed sentence says how): LexEnds: laid · LexWritten: laid · LexFrom: laid.
  DERIVED. THE GIVEN ROWS OF THIS SEAT. 3 by the template 'for every input the law returns true; each argument reads behind the call as it read before'; 0 by the template 'total and deterministic' (their statements: YtgldgdopabmefaaDoorTotals.lean).
  GIVEN WITH THE SEED: the statements are not yours to turn. If you find one false, say at which input.
  Laid BY PROGRAM, IN A SANDBOX (cutbox-rows.mjs): the forced cells as the released guide's own fill.sh prints them over the translation 28f3da5ba88f1654… (all of the seat's roots in one cut). By AI agents, Wed Nov 11 2026. No macro, syntax, notation, axiom, sorry.
-/
import Derived.Test.YtgldgdopabmefaaDoorChecked
import GoSem.Claim
import GoSem.ClaimJoined
import GoSem.ClaimMapViews
import Derived.JoinedTies
import Derived.KernelRfl
namespace Go.Proofs.YtgldgdopabmefaaDoor
/- THE CELL 'sum', in the pinned program and in every row, IS THE sha256 OF THE DUMP (.gsa) THAT YtgldgdopabmefaaDoorProg.lean LOADS. Nothing in Lean hashes anything: it is a label: what it is worth is what the hold of that sum in a sandbox is worth. -/
noncomputable def Tryd.pinned : Pinned := { name := "ytgldgdopabmefaadoor", sum := "28f3da5ba88f1654462fe9a1887987031b2323587e47696ee545b16132c19250", checked := Tryd.checked }
namespace Rows
def none {H : Type} : Left H := { results := [], args := [] }

/- WHAT THE LISTED PACKAGE-LEVEL VARIABLES READ AS WHEN THE CALL BEGINS. Each datum BY PROGRAM (the guide's laid-datum.mjs) off the statement by which the dump's own 'gosem.cut.vars' lays the variable. In a bare row this is a premise. The card (YtgldgdopabmefaaDoorCards.lean) ties it to the program's text. -/
def laid_tympan_ent_controls {H : Type} : DataW H := .agg [.lit (.int .i32 8364), .lit (.int .i32 129), .lit (.int .i32 8218), .lit (.int .i32 402), .lit (.int .i32 8222), .lit (.int .i32 8230), .lit (.int .i32 8224), .lit (.int .i32 8225), .lit (.int .i32 710), .lit (.int .i32 8240), .lit (.int .i32 352), .lit (.int .i32 8249), .lit (.int .i32 338), .lit (.int .i32 141), .lit (.int .i32 381), .lit (.int .i32 143), .lit (.int .i32 144), .lit (.int .i32 8216), .lit (.int .i32 8217), .lit (.int .i32 8220), .lit (.int .i32 8221), .lit (.int .i32 8226), .lit (.int .i32 8211), .lit (.int .i32 8212), .lit (.int .i32 732), .lit (.int .i32 8482), .lit (.int .i32 353), .lit (.int .i32 8250), .lit (.int .i32 339), .lit (.int .i32 157), .lit (.int .i32 382), .lit (.int .i32 376)]
def laid_tympan_note_shorts {H : Type} : DataW H := .agg [.lit (.string [62]), .lit (.string [45, 62])]
def laid_tympan_note_closes {H : Type} : DataW H := .agg [.lit (.string [45, 45]), .lit (.string [45, 45, 33])]
def laid_tympan_note_lefts {H : Type} : DataW H := .agg [.lit (.string [45, 45, 33]), .lit (.string [45, 45]), .lit (.string [45])]

/-- 'tympanlaw09.LexEnds': WHATEVER THE INPUT: true; the input reads as it did. -/
def lexEndsSpec : ChangeSpec := { name := "lexEnds", fn := fun _ => fun
  | [d] => { results := [.lit (.bool true)], args := [d] }
  | _ => none }
def lexEndsRow : OpenClaim := { program := "ytgldgdopabmefaadoor", sum := "28f3da5ba88f1654462fe9a1887987031b2323587e47696ee545b16132c19250", func := "tympan/tympanlaw09.LexEnds", spec := "lexEnds", inPlace := ["internal/bytealg.CountString", "internal/bytealg.IndexByteString", "internal/bytealg.IndexString", "internal/abi.NoEscape", "internal/bytealg.MakeNoZero"], unfollowed := true, recurses := true, named := ["internal/bytealg.MaxLen", "tympan/ent.controls", "tympan/note.shorts", "tympan/note.closes", "tympan/note.lefts"], apart := false, laid := [("tympan/ent.controls", laid_tympan_ent_controls), ("tympan/note.shorts", laid_tympan_note_shorts), ("tympan/note.closes", laid_tympan_note_closes), ("tympan/note.lefts", laid_tympan_note_lefts)] }
def LexEndsSaid : Prop := lexEndsRow.holds Tryd.pinned (OpenSpec.ofChange lexEndsSpec)

/-- ITS FALSE NEIGHBOUR: 'it returns false'. Refute it at one input. -/
def lexEndsWrong : ChangeSpec := { name := "lexEnds", fn := fun _ => fun
  | [d] => { results := [.lit (.bool false)], args := [d] }
  | _ => none }
def LexEndsWrongFalsely : Prop := lexEndsRow.holds Tryd.pinned (OpenSpec.ofChange lexEndsWrong)

/-- 'tympanlaw09.LexWritten': WHATEVER THE INPUT: true; the input reads as it did. -/
def lexWrittenSpec : ChangeSpec := { name := "lexWritten", fn := fun _ => fun
  | [d] => { results := [.lit (.bool true)], args := [d] }
  | _ => none }
def lexWrittenRow : OpenClaim := { program := "ytgldgdopabmefaadoor", sum := "28f3da5ba88f1654462fe9a1887987031b2323587e47696ee545b16132c19250", func := "tympan/tympanlaw09.LexWritten", spec := "lexWritten", inPlace := ["internal/bytealg.CountString", "internal/bytealg.IndexByteString", "internal/bytealg.IndexString", "internal/abi.NoEscape", "internal/bytealg.MakeNoZero"], unfollowed := true, recurses := true, named := ["internal/bytealg.MaxLen", "tympan/ent.controls", "tympan/note.shorts", "tympan/note.closes", "tympan/note.lefts"], apart := false, laid := [("tympan/ent.controls", laid_tympan_ent_controls), ("tympan/note.shorts", laid_tympan_note_shorts), ("tympan/note.closes", laid_tympan_note_closes), ("tympan/note.lefts", laid_tympan_note_lefts)] }
def LexWrittenSaid : Prop := lexWrittenRow.holds Tryd.pinned (OpenSpec.ofChange lexWrittenSpec)

/-- ITS FALSE NEIGHBOUR: 'it returns false'. Refute it at one input. -/
def lexWrittenWrong : ChangeSpec := { name := "lexWritten", fn := fun _ => fun
  | [d] => { results := [.lit (.bool false)], args := [d] }
  | _ => none }
def LexWrittenWrongFalsely : Prop := lexWrittenRow.holds Tryd.pinned (OpenSpec.ofChange lexWrittenWrong)

/-- 'tympanlaw09.LexFrom': WHATEVER THE INPUT: true; the input reads as it did. -/
def lexFromSpec : ChangeSpec := { name := "lexFrom", fn := fun _ => fun
  | [d1, d2, d3, d4, d5] => { results := [.lit (.bool true)], args := [d1, d2, d3, d4, d5] }
  | _ => none }
def lexFromRow : OpenClaim := { program := "ytgldgdopabmefaadoor", sum := "28f3da5ba88f1654462fe9a1887987031b2323587e47696ee545b16132c19250", func := "tympan/tympanlaw09.LexFrom", spec := "lexFrom", inPlace := ["internal/bytealg.CountString", "internal/bytealg.IndexByteString", "internal/bytealg.IndexString", "internal/abi.NoEscape", "internal/bytealg.MakeNoZero"], unfollowed := true, recurses := true, named := ["internal/bytealg.MaxLen", "tympan/ent.controls", "tympan/note.shorts", "tympan/note.closes", "tympan/note.lefts"], apart := false, laid := [("tympan/ent.controls", laid_tympan_ent_controls), ("tympan/note.shorts", laid_tympan_note_shorts), ("tympan/note.closes", laid_tympan_note_closes), ("tympan/note.lefts", laid_tympan_note_lefts)] }
def LexFromSaid : Prop := lexFromRow.holds Tryd.pinned (OpenSpec.ofChange lexFromSpec)

/-- ITS FALSE NEIGHBOUR: 'it returns false'. Refute it at one input. -/
def lexFromWrong : ChangeSpec := { name := "lexFrom", fn := fun _ => fun
  | [d1, d2, d3, d4, d5] => { results := [.lit (.bool false)], args := [d1, d2, d3, d4, d5] }
  | _ => none }
def LexFromWrongFalsely : Prop := lexFromRow.holds Tryd.pinned (OpenSpec.ofChange lexFromWrong)

/- THE SECOND FORM. 'bulk': how many values and letters a reading holds, each counted each time it is reached (what is shared counts as often as it is met; a slice's spare places count too). A statement '..UptoSaid' is the law's where the arguments, and the package variables that the reading takes, are together of bulk at most 1048576: NARROWER than '..Said'. Prove '..Said' where nothing that the law and all that it calls make is longer than what came in: it says more and counts as full. Else prove '..UptoSaid'. A law counts once. -/
mutual
def uptoBulk {H : Type} : DataW H → Nat
  | .lit (.string bytes) => bytes.length + 1
  | .lit _ => 1
  | .nil => 1
  | .ptr d => uptoBulk d + 1
  | .slice elems spare => uptoBulkAll elems + uptoBulkAll spare + 1
  | .agg parts => uptoBulkAll parts + 1
  | .iface _ d => uptoBulk d + 1
  | .map entries => uptoBulkEntries entries + 1
  | .held _ => 1
def uptoBulkAll {H : Type} : List (DataW H) → Nat
  | [] => 0
  | d :: r => uptoBulk d + uptoBulkAll r
def uptoBulkEntries {H : Type} : List (Lit × DataW H) → Nat
  | [] => 0
  | x :: r => uptoBulkEntry x + uptoBulkEntries r
def uptoBulkEntry {H : Type} : Lit × DataW H → Nat
  | (.string bytes, d) => bytes.length + uptoBulk d + 1
  | (_, d) => uptoBulk d + 1
 end
def uptoSmall : (H : Type) → List (DataW H) → Bool := fun _ ds => decide (uptoBulkAll ds ≤ 1048576)
def OpenSpec.upto (s : _root_.Go.ChangeSpec) : _root_.Go.OpenSpec := { _root_.Go.OpenSpec.ofChange s with cond := some uptoSmall }

/-- 'tympanlaw09.LexEnds', WHERE WHAT IT READS IS OF BULK AT MOST 1048576: true; the input reads as it did. -/
def lexEndsUptoRow : OpenClaim := { program := "ytgldgdopabmefaadoor", sum := "28f3da5ba88f1654462fe9a1887987031b2323587e47696ee545b16132c19250", func := "tympan/tympanlaw09.LexEnds", spec := "lexEnds", inPlace := ["internal/bytealg.CountString", "internal/bytealg.IndexByteString", "internal/bytealg.IndexString", "internal/abi.NoEscape", "internal/bytealg.MakeNoZero"], unfollowed := true, recurses := true, named := ["internal/bytealg.MaxLen", "tympan/ent.controls", "tympan/note.shorts", "tympan/note.closes", "tympan/note.lefts"], apart := false, laid := [("tympan/ent.controls", laid_tympan_ent_controls), ("tympan/note.shorts", laid_tympan_note_shorts), ("tympan/note.closes", laid_tympan_note_closes), ("tympan/note.lefts", laid_tympan_note_lefts)], narrowed := true }
def LexEndsUptoSaid : Prop := lexEndsUptoRow.holds Tryd.pinned (OpenSpec.upto lexEndsSpec)

/-- 'tympanlaw09.LexWritten', WHERE WHAT IT READS IS OF BULK AT MOST 1048576: true; the input reads as it did. -/
def lexWrittenUptoRow : OpenClaim := { program := "ytgldgdopabmefaadoor", sum := "28f3da5ba88f1654462fe9a1887987031b2323587e47696ee545b16132c19250", func := "tympan/tympanlaw09.LexWritten", spec := "lexWritten", inPlace := ["internal/bytealg.CountString", "internal/bytealg.IndexByteString", "internal/bytealg.IndexString", "internal/abi.NoEscape", "internal/bytealg.MakeNoZero"], unfollowed := true, recurses := true, named := ["internal/bytealg.MaxLen", "tympan/ent.controls", "tympan/note.shorts", "tympan/note.closes", "tympan/note.lefts"], apart := false, laid := [("tympan/ent.controls", laid_tympan_ent_controls), ("tympan/note.shorts", laid_tympan_note_shorts), ("tympan/note.closes", laid_tympan_note_closes), ("tympan/note.lefts", laid_tympan_note_lefts)], narrowed := true }
def LexWrittenUptoSaid : Prop := lexWrittenUptoRow.holds Tryd.pinned (OpenSpec.upto lexWrittenSpec)

/-- 'tympanlaw09.LexFrom', WHERE WHAT IT READS IS OF BULK AT MOST 1048576: true; the input reads as it did. -/
def lexFromUptoRow : OpenClaim := { program := "ytgldgdopabmefaadoor", sum := "28f3da5ba88f1654462fe9a1887987031b2323587e47696ee545b16132c19250", func := "tympan/tympanlaw09.LexFrom", spec := "lexFrom", inPlace := ["internal/bytealg.CountString", "internal/bytealg.IndexByteString", "internal/bytealg.IndexString", "internal/abi.NoEscape", "internal/bytealg.MakeNoZero"], unfollowed := true, recurses := true, named := ["internal/bytealg.MaxLen", "tympan/ent.controls", "tympan/note.shorts", "tympan/note.closes", "tympan/note.lefts"], apart := false, laid := [("tympan/ent.controls", laid_tympan_ent_controls), ("tympan/note.shorts", laid_tympan_note_shorts), ("tympan/note.closes", laid_tympan_note_closes), ("tympan/note.lefts", laid_tympan_note_lefts)], narrowed := true }
def LexFromUptoSaid : Prop := lexFromUptoRow.holds Tryd.pinned (OpenSpec.upto lexFromSpec)

end Rows
end Go.Proofs.YtgldgdopabmefaaDoor
