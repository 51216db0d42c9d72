/-
  DERIVED. GIVEN WITH THE SEED: THE CARDS: each row of YtinioghpghcdiaaDoorRows.lean that lists a variable, with what it lists TIED to the program's text (the seventh form; the later family's looks); each row that meets fmt, with fmt's text TOLD by the authors' own Lean function (tested against real Go, not proved from fmt's source: count such statements apart). THE CARD IS WHAT COUNTS. Prove the row's statement (the work); the ties are given (YtinioghpghcdiaaDoorTie.lean); close each card by the builder's one call (the guide's Derived/Test/ToyasCard.lean, 'card_holds'). Laid BY PROGRAM, IN A SANDBOX (cutbox-door.mjs). By AI agents, Wed Nov 11 2026. No macro, syntax, notation, axiom, sorry.
-/
import Derived.Test.YtinioghpghcdiaaDoorRows
import GoSem.ClaimSeven
namespace Go.Proofs.YtinioghpghcdiaaDoor
namespace Rows

/-- THE TIED CARD OF 'tympanlaw07.NoteReads'. -/
def noteReadsCard : Claim7 := { stood := { row := noteReadsRow, standIns := [], harness := (true, "0953291ac21f10b33e1dc139651ece87718ad2deef4d20abf6ee6fdd2415652b"), looks := false }, kinds := [], alts := [], laidByText := true, laidKinds := [.data, .data, .data], laidTests := true, laidLooks := .later }
def NoteReadsCardSaid : Prop := Claim7.holds Tryd.pinned (.plain (OpenSpec.ofChange noteReadsSpec)) noteReadsCard

/-- THE TIED CARD OF 'tympanlaw07.NoteAll'. -/
def noteAllCard : Claim7 := { stood := { row := noteAllRow, standIns := [], harness := (true, "0953291ac21f10b33e1dc139651ece87718ad2deef4d20abf6ee6fdd2415652b"), looks := false }, kinds := [], alts := [], laidByText := true, laidKinds := [.data, .data, .data], laidTests := true, laidLooks := .later }
def NoteAllCardSaid : Prop := Claim7.holds Tryd.pinned (.plain (OpenSpec.ofChange noteAllSpec)) noteAllCard

/-- THE TIED CARD OF 'tympanlaw07.NoteBack'. -/
def noteBackCard : Claim7 := { stood := { row := noteBackRow, standIns := [], harness := (true, "0953291ac21f10b33e1dc139651ece87718ad2deef4d20abf6ee6fdd2415652b"), looks := false }, kinds := [], alts := [], laidByText := true, laidKinds := [.data, .data, .data], laidTests := true, laidLooks := .later }
def NoteBackCardSaid : Prop := Claim7.holds Tryd.pinned (.plain (OpenSpec.ofChange noteBackSpec)) noteBackCard

/-- THE TIED CARD OF 'tympanlaw07.NoteEnds'. -/
def noteEndsCard : Claim7 := { stood := { row := noteEndsRow, standIns := [], harness := (true, "0953291ac21f10b33e1dc139651ece87718ad2deef4d20abf6ee6fdd2415652b"), looks := false }, kinds := [], alts := [], laidByText := true, laidKinds := [.data, .data, .data], laidTests := true, laidLooks := .later }
def NoteEndsCardSaid : Prop := Claim7.holds Tryd.pinned (.plain (OpenSpec.ofChange noteEndsSpec)) noteEndsCard

/-- THE SECOND FORM's CARD OF 'tympanlaw07.NoteReads'. -/
def noteReadsUptoCard : Claim7 := { stood := { row := noteReadsUptoRow, standIns := [], harness := (true, "0953291ac21f10b33e1dc139651ece87718ad2deef4d20abf6ee6fdd2415652b"), looks := false }, kinds := [], alts := [], laidByText := true, laidKinds := [.data, .data, .data], laidTests := true, laidLooks := .later }
def NoteReadsUptoCardSaid : Prop := Claim7.holds Tryd.pinned (.plain (OpenSpec.upto noteReadsSpec)) noteReadsUptoCard

/-- THE SECOND FORM's CARD OF 'tympanlaw07.NoteAll'. -/
def noteAllUptoCard : Claim7 := { stood := { row := noteAllUptoRow, standIns := [], harness := (true, "0953291ac21f10b33e1dc139651ece87718ad2deef4d20abf6ee6fdd2415652b"), looks := false }, kinds := [], alts := [], laidByText := true, laidKinds := [.data, .data, .data], laidTests := true, laidLooks := .later }
def NoteAllUptoCardSaid : Prop := Claim7.holds Tryd.pinned (.plain (OpenSpec.upto noteAllSpec)) noteAllUptoCard

/-- THE SECOND FORM's CARD OF 'tympanlaw07.NoteBack'. -/
def noteBackUptoCard : Claim7 := { stood := { row := noteBackUptoRow, standIns := [], harness := (true, "0953291ac21f10b33e1dc139651ece87718ad2deef4d20abf6ee6fdd2415652b"), looks := false }, kinds := [], alts := [], laidByText := true, laidKinds := [.data, .data, .data], laidTests := true, laidLooks := .later }
def NoteBackUptoCardSaid : Prop := Claim7.holds Tryd.pinned (.plain (OpenSpec.upto noteBackSpec)) noteBackUptoCard

/-- THE SECOND FORM's CARD OF 'tympanlaw07.NoteEnds'. -/
def noteEndsUptoCard : Claim7 := { stood := { row := noteEndsUptoRow, standIns := [], harness := (true, "0953291ac21f10b33e1dc139651ece87718ad2deef4d20abf6ee6fdd2415652b"), looks := false }, kinds := [], alts := [], laidByText := true, laidKinds := [.data, .data, .data], laidTests := true, laidLooks := .later }
def NoteEndsUptoCardSaid : Prop := Claim7.holds Tryd.pinned (.plain (OpenSpec.upto noteEndsSpec)) noteEndsUptoCard
end Rows
end Go.Proofs.YtinioghpghcdiaaDoor
