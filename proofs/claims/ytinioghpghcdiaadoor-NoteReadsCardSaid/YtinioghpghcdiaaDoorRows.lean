/-
  NARROWER THAN 'FOR EVERY INPUT', by the rows' own cells (each row's printed sentence says how): NoteReads: laid · NoteAll: laid · NoteBack: laid · NoteEnds: laid.
  DERIVED. THE GIVEN ROWS OF THIS SEAT. 4 by the template 'for every input the law returns true; each argument reads behind the call as it read before'; 0 by the template 'total and deterministic' (their statements: YtinioghpghcdiaaDoorTotals.lean).
  GIVEN WITH THE SEED: the statements are not yours to turn. If you find one false, say at which input.
  Laid BY PROGRAM, IN A SANDBOX (cutbox-rows.mjs): the forced cells as the released guide's own fill.sh prints them over the translation cd39c5a49a4aad62… (all of the seat's roots in one cut). By AI agents, Wed Nov 11 2026. No macro, syntax, notation, axiom, sorry.
-/
import Derived.Test.YtinioghpghcdiaaDoorChecked
import GoSem.Claim
import GoSem.ClaimJoined
import GoSem.ClaimMapViews
import Derived.JoinedTies
import Derived.KernelRfl
namespace Go.Proofs.YtinioghpghcdiaaDoor
/- THE CELL 'sum', in the pinned program and in every row, IS THE sha256 OF THE DUMP (.gsa) THAT YtinioghpghcdiaaDoorProg.lean LOADS. Nothing in Lean hashes anything: it is a label: what it is worth is what the hold of that sum in a sandbox is worth. -/
noncomputable def Tryd.pinned : Pinned := { name := "ytinioghpghcdiaadoor", sum := "cd39c5a49a4aad62a748b4c2968aa6f93d451ea171bde9791d3959164beb870c", checked := Tryd.checked }
namespace Rows
def none {H : Type} : Left H := { results := [], args := [] }

/- WHAT THE LISTED PACKAGE-LEVEL VARIABLES READ AS WHEN THE CALL BEGINS. Each datum BY PROGRAM (the guide's laid-datum.mjs) off the statement by which the dump's own 'gosem.cut.vars' lays the variable. In a bare row this is a premise. The card (YtinioghpghcdiaaDoorCards.lean) ties it to the program's text. -/
def laid_tympan_note_shorts {H : Type} : DataW H := .agg [.lit (.string [62]), .lit (.string [45, 62])]
def laid_tympan_note_closes {H : Type} : DataW H := .agg [.lit (.string [45, 45]), .lit (.string [45, 45, 33])]
def laid_tympan_note_lefts {H : Type} : DataW H := .agg [.lit (.string [45, 45, 33]), .lit (.string [45, 45]), .lit (.string [45])]

/-- 'tympanlaw07.NoteReads': WHATEVER THE INPUT: true; the input reads as it did. -/
def noteReadsSpec : ChangeSpec := { name := "noteReads", fn := fun _ => fun
  | [d1, d2, d3] => { results := [.lit (.bool true)], args := [d1, d2, d3] }
  | _ => none }
def noteReadsRow : OpenClaim := { program := "ytinioghpghcdiaadoor", sum := "cd39c5a49a4aad62a748b4c2968aa6f93d451ea171bde9791d3959164beb870c", func := "tympan/tympanlaw07.NoteReads", spec := "noteReads", inPlace := ["internal/bytealg.IndexByteString", "internal/bytealg.IndexString"], named := ["tympan/note.shorts", "tympan/note.closes", "tympan/note.lefts", "internal/bytealg.MaxLen"], apart := false, laid := [("tympan/note.shorts", laid_tympan_note_shorts), ("tympan/note.closes", laid_tympan_note_closes), ("tympan/note.lefts", laid_tympan_note_lefts)] }
def NoteReadsSaid : Prop := noteReadsRow.holds Tryd.pinned (OpenSpec.ofChange noteReadsSpec)

/-- ITS FALSE NEIGHBOUR: 'it returns false'. Refute it at one input. -/
def noteReadsWrong : ChangeSpec := { name := "noteReads", fn := fun _ => fun
  | [d1, d2, d3] => { results := [.lit (.bool false)], args := [d1, d2, d3] }
  | _ => none }
def NoteReadsWrongFalsely : Prop := noteReadsRow.holds Tryd.pinned (OpenSpec.ofChange noteReadsWrong)

/-- 'tympanlaw07.NoteAll': WHATEVER THE INPUT: true; the input reads as it did. -/
def noteAllSpec : ChangeSpec := { name := "noteAll", fn := fun _ => fun
  | [d1, d2] => { results := [.lit (.bool true)], args := [d1, d2] }
  | _ => none }
def noteAllRow : OpenClaim := { program := "ytinioghpghcdiaadoor", sum := "cd39c5a49a4aad62a748b4c2968aa6f93d451ea171bde9791d3959164beb870c", func := "tympan/tympanlaw07.NoteAll", spec := "noteAll", inPlace := ["internal/bytealg.IndexByteString", "internal/bytealg.IndexString"], named := ["tympan/note.shorts", "tympan/note.closes", "tympan/note.lefts", "internal/bytealg.MaxLen"], apart := false, laid := [("tympan/note.shorts", laid_tympan_note_shorts), ("tympan/note.closes", laid_tympan_note_closes), ("tympan/note.lefts", laid_tympan_note_lefts)] }
def NoteAllSaid : Prop := noteAllRow.holds Tryd.pinned (OpenSpec.ofChange noteAllSpec)

/-- ITS FALSE NEIGHBOUR: 'it returns false'. Refute it at one input. -/
def noteAllWrong : ChangeSpec := { name := "noteAll", fn := fun _ => fun
  | [d1, d2] => { results := [.lit (.bool false)], args := [d1, d2] }
  | _ => none }
def NoteAllWrongFalsely : Prop := noteAllRow.holds Tryd.pinned (OpenSpec.ofChange noteAllWrong)

/-- 'tympanlaw07.NoteBack': WHATEVER THE INPUT: true; the input reads as it did. -/
def noteBackSpec : ChangeSpec := { name := "noteBack", fn := fun _ => fun
  | [d1, d2] => { results := [.lit (.bool true)], args := [d1, d2] }
  | _ => none }
def noteBackRow : OpenClaim := { program := "ytinioghpghcdiaadoor", sum := "cd39c5a49a4aad62a748b4c2968aa6f93d451ea171bde9791d3959164beb870c", func := "tympan/tympanlaw07.NoteBack", spec := "noteBack", inPlace := ["internal/bytealg.IndexByteString", "internal/bytealg.IndexString"], named := ["tympan/note.shorts", "tympan/note.closes", "tympan/note.lefts", "internal/bytealg.MaxLen"], apart := false, laid := [("tympan/note.shorts", laid_tympan_note_shorts), ("tympan/note.closes", laid_tympan_note_closes), ("tympan/note.lefts", laid_tympan_note_lefts)] }
def NoteBackSaid : Prop := noteBackRow.holds Tryd.pinned (OpenSpec.ofChange noteBackSpec)

/-- ITS FALSE NEIGHBOUR: 'it returns false'. Refute it at one input. -/
def noteBackWrong : ChangeSpec := { name := "noteBack", fn := fun _ => fun
  | [d1, d2] => { results := [.lit (.bool false)], args := [d1, d2] }
  | _ => none }
def NoteBackWrongFalsely : Prop := noteBackRow.holds Tryd.pinned (OpenSpec.ofChange noteBackWrong)

/-- 'tympanlaw07.NoteEnds': WHATEVER THE INPUT: true; the input reads as it did. -/
def noteEndsSpec : ChangeSpec := { name := "noteEnds", fn := fun _ => fun
  | [d1, d2, d3] => { results := [.lit (.bool true)], args := [d1, d2, d3] }
  | _ => none }
def noteEndsRow : OpenClaim := { program := "ytinioghpghcdiaadoor", sum := "cd39c5a49a4aad62a748b4c2968aa6f93d451ea171bde9791d3959164beb870c", func := "tympan/tympanlaw07.NoteEnds", spec := "noteEnds", inPlace := ["internal/bytealg.IndexByteString", "internal/bytealg.IndexString"], named := ["tympan/note.shorts", "tympan/note.closes", "tympan/note.lefts", "internal/bytealg.MaxLen"], apart := false, laid := [("tympan/note.shorts", laid_tympan_note_shorts), ("tympan/note.closes", laid_tympan_note_closes), ("tympan/note.lefts", laid_tympan_note_lefts)] }
def NoteEndsSaid : Prop := noteEndsRow.holds Tryd.pinned (OpenSpec.ofChange noteEndsSpec)

/-- ITS FALSE NEIGHBOUR: 'it returns false'. Refute it at one input. -/
def noteEndsWrong : ChangeSpec := { name := "noteEnds", fn := fun _ => fun
  | [d1, d2, d3] => { results := [.lit (.bool false)], args := [d1, d2, d3] }
  | _ => none }
def NoteEndsWrongFalsely : Prop := noteEndsRow.holds Tryd.pinned (OpenSpec.ofChange noteEndsWrong)

/- THE SECOND FORM. 'bulk': how many values and letters a reading holds, each counted each time it is reached (what is shared counts as often as it is met; a slice's spare places count too). A statement '..UptoSaid' is the law's where the arguments, and the package variables that the reading takes, are together of bulk at most 1048576: NARROWER than '..Said'. Prove '..Said' where nothing that the law and all that it calls make is longer than what came in: it says more and counts as full. Else prove '..UptoSaid'. A law counts once. -/
mutual
def uptoBulk {H : Type} : DataW H → Nat
  | .lit (.string bytes) => bytes.length + 1
  | .lit _ => 1
  | .nil => 1
  | .ptr d => uptoBulk d + 1
  | .slice elems spare => uptoBulkAll elems + uptoBulkAll spare + 1
  | .agg parts => uptoBulkAll parts + 1
  | .iface _ d => uptoBulk d + 1
  | .map entries => uptoBulkEntries entries + 1
  | .held _ => 1
def uptoBulkAll {H : Type} : List (DataW H) → Nat
  | [] => 0
  | d :: r => uptoBulk d + uptoBulkAll r
def uptoBulkEntries {H : Type} : List (Lit × DataW H) → Nat
  | [] => 0
  | x :: r => uptoBulkEntry x + uptoBulkEntries r
def uptoBulkEntry {H : Type} : Lit × DataW H → Nat
  | (.string bytes, d) => bytes.length + uptoBulk d + 1
  | (_, d) => uptoBulk d + 1
 end
def uptoSmall : (H : Type) → List (DataW H) → Bool := fun _ ds => decide (uptoBulkAll ds ≤ 1048576)
def OpenSpec.upto (s : _root_.Go.ChangeSpec) : _root_.Go.OpenSpec := { _root_.Go.OpenSpec.ofChange s with cond := some uptoSmall }

/-- 'tympanlaw07.NoteReads', WHERE WHAT IT READS IS OF BULK AT MOST 1048576: true; the input reads as it did. -/
def noteReadsUptoRow : OpenClaim := { program := "ytinioghpghcdiaadoor", sum := "cd39c5a49a4aad62a748b4c2968aa6f93d451ea171bde9791d3959164beb870c", func := "tympan/tympanlaw07.NoteReads", spec := "noteReads", inPlace := ["internal/bytealg.IndexByteString", "internal/bytealg.IndexString"], named := ["tympan/note.shorts", "tympan/note.closes", "tympan/note.lefts", "internal/bytealg.MaxLen"], apart := false, laid := [("tympan/note.shorts", laid_tympan_note_shorts), ("tympan/note.closes", laid_tympan_note_closes), ("tympan/note.lefts", laid_tympan_note_lefts)], narrowed := true }
def NoteReadsUptoSaid : Prop := noteReadsUptoRow.holds Tryd.pinned (OpenSpec.upto noteReadsSpec)

/-- 'tympanlaw07.NoteAll', WHERE WHAT IT READS IS OF BULK AT MOST 1048576: true; the input reads as it did. -/
def noteAllUptoRow : OpenClaim := { program := "ytinioghpghcdiaadoor", sum := "cd39c5a49a4aad62a748b4c2968aa6f93d451ea171bde9791d3959164beb870c", func := "tympan/tympanlaw07.NoteAll", spec := "noteAll", inPlace := ["internal/bytealg.IndexByteString", "internal/bytealg.IndexString"], named := ["tympan/note.shorts", "tympan/note.closes", "tympan/note.lefts", "internal/bytealg.MaxLen"], apart := false, laid := [("tympan/note.shorts", laid_tympan_note_shorts), ("tympan/note.closes", laid_tympan_note_closes), ("tympan/note.lefts", laid_tympan_note_lefts)], narrowed := true }
def NoteAllUptoSaid : Prop := noteAllUptoRow.holds Tryd.pinned (OpenSpec.upto noteAllSpec)

/-- 'tympanlaw07.NoteBack', WHERE WHAT IT READS IS OF BULK AT MOST 1048576: true; the input reads as it did. -/
def noteBackUptoRow : OpenClaim := { program := "ytinioghpghcdiaadoor", sum := "cd39c5a49a4aad62a748b4c2968aa6f93d451ea171bde9791d3959164beb870c", func := "tympan/tympanlaw07.NoteBack", spec := "noteBack", inPlace := ["internal/bytealg.IndexByteString", "internal/bytealg.IndexString"], named := ["tympan/note.shorts", "tympan/note.closes", "tympan/note.lefts", "internal/bytealg.MaxLen"], apart := false, laid := [("tympan/note.shorts", laid_tympan_note_shorts), ("tympan/note.closes", laid_tympan_note_closes), ("tympan/note.lefts", laid_tympan_note_lefts)], narrowed := true }
def NoteBackUptoSaid : Prop := noteBackUptoRow.holds Tryd.pinned (OpenSpec.upto noteBackSpec)

/-- 'tympanlaw07.NoteEnds', WHERE WHAT IT READS IS OF BULK AT MOST 1048576: true; the input reads as it did. -/
def noteEndsUptoRow : OpenClaim := { program := "ytinioghpghcdiaadoor", sum := "cd39c5a49a4aad62a748b4c2968aa6f93d451ea171bde9791d3959164beb870c", func := "tympan/tympanlaw07.NoteEnds", spec := "noteEnds", inPlace := ["internal/bytealg.IndexByteString", "internal/bytealg.IndexString"], named := ["tympan/note.shorts", "tympan/note.closes", "tympan/note.lefts", "internal/bytealg.MaxLen"], apart := false, laid := [("tympan/note.shorts", laid_tympan_note_shorts), ("tympan/note.closes", laid_tympan_note_closes), ("tympan/note.lefts", laid_tympan_note_lefts)], narrowed := true }
def NoteEndsUptoSaid : Prop := noteEndsUptoRow.holds Tryd.pinned (OpenSpec.upto noteEndsSpec)

end Rows
end Go.Proofs.YtinioghpghcdiaaDoor
