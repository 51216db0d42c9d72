/-
  DERIVED. GIVEN WITH THE SEED: THE CARDS: each row of YtlikpmmkfjghbaaDoorRows.lean that lists a variable, with what it lists TIED to the program's text (the seventh form; the later family's looks); each row that meets fmt, with fmt's text TOLD by the authors' own Lean function (tested against real Go, not proved from fmt's source: count such statements apart). THE CARD IS WHAT COUNTS. Prove the row's statement (the work); the ties are given (YtlikpmmkfjghbaaDoorTie.lean); close each card by the builder's one call (the guide's Derived/Test/ToyasCard.lean, 'card_holds'). Laid BY PROGRAM, IN A SANDBOX (cutbox-door.mjs). By AI agents, Wed Nov 11 2026. No macro, syntax, notation, axiom, sorry.
-/
import Derived.Test.YtlikpmmkfjghbaaDoorRows
import GoSem.ClaimSeven
namespace Go.Proofs.YtlikpmmkfjghbaaDoor
namespace Rows

/-- THE TIED CARD OF 'tympanlaw08.RawTexts'. -/
def rawTextsCard : Claim7 := { stood := { row := rawTextsRow, standIns := [], harness := (true, "5e11c3ec82c0506e9651a0daad520465c143d1ca45625b078fe4ed77f63c8b20"), looks := false }, kinds := [], alts := [], laidByText := true, laidKinds := [.data], laidTests := true, laidLooks := .later }
def RawTextsCardSaid : Prop := Claim7.holds Tryd.pinned (.plain (OpenSpec.ofChange rawTextsSpec)) rawTextsCard

/-- THE TIED CARD OF 'tympanlaw08.RawParts'. -/
def rawPartsCard : Claim7 := { stood := { row := rawPartsRow, standIns := [], harness := (true, "5e11c3ec82c0506e9651a0daad520465c143d1ca45625b078fe4ed77f63c8b20"), looks := false }, kinds := [], alts := [], laidByText := true, laidKinds := [.data], laidTests := true, laidLooks := .later }
def RawPartsCardSaid : Prop := Claim7.holds Tryd.pinned (.plain (OpenSpec.ofChange rawPartsSpec)) rawPartsCard

/-- THE TIED CARD OF 'tympanlaw08.RawSize'. -/
def rawSizeCard : Claim7 := { stood := { row := rawSizeRow, standIns := [], harness := (true, "5e11c3ec82c0506e9651a0daad520465c143d1ca45625b078fe4ed77f63c8b20"), looks := false }, kinds := [], alts := [], laidByText := true, laidKinds := [.data], laidTests := true, laidLooks := .later }
def RawSizeCardSaid : Prop := Claim7.holds Tryd.pinned (.plain (OpenSpec.ofChange rawSizeSpec)) rawSizeCard

/-- THE SECOND FORM's CARD OF 'tympanlaw08.RawTexts'. -/
def rawTextsUptoCard : Claim7 := { stood := { row := rawTextsUptoRow, standIns := [], harness := (true, "5e11c3ec82c0506e9651a0daad520465c143d1ca45625b078fe4ed77f63c8b20"), looks := false }, kinds := [], alts := [], laidByText := true, laidKinds := [.data], laidTests := true, laidLooks := .later }
def RawTextsUptoCardSaid : Prop := Claim7.holds Tryd.pinned (.plain (OpenSpec.upto rawTextsSpec)) rawTextsUptoCard

/-- THE SECOND FORM's CARD OF 'tympanlaw08.RawParts'. -/
def rawPartsUptoCard : Claim7 := { stood := { row := rawPartsUptoRow, standIns := [], harness := (true, "5e11c3ec82c0506e9651a0daad520465c143d1ca45625b078fe4ed77f63c8b20"), looks := false }, kinds := [], alts := [], laidByText := true, laidKinds := [.data], laidTests := true, laidLooks := .later }
def RawPartsUptoCardSaid : Prop := Claim7.holds Tryd.pinned (.plain (OpenSpec.upto rawPartsSpec)) rawPartsUptoCard

/-- THE SECOND FORM's CARD OF 'tympanlaw08.RawSize'. -/
def rawSizeUptoCard : Claim7 := { stood := { row := rawSizeUptoRow, standIns := [], harness := (true, "5e11c3ec82c0506e9651a0daad520465c143d1ca45625b078fe4ed77f63c8b20"), looks := false }, kinds := [], alts := [], laidByText := true, laidKinds := [.data], laidTests := true, laidLooks := .later }
def RawSizeUptoCardSaid : Prop := Claim7.holds Tryd.pinned (.plain (OpenSpec.upto rawSizeSpec)) rawSizeUptoCard
end Rows
end Go.Proofs.YtlikpmmkfjghbaaDoor
