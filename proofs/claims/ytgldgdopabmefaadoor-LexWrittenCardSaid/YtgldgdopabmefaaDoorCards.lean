/-
  DERIVED. GIVEN WITH THE SEED: THE CARDS: each row of YtgldgdopabmefaaDoorRows.lean that lists a variable, with what it lists TIED to the program's text (the seventh form; the later family's looks); each row that meets fmt, with fmt's text TOLD by the authors' own Lean function (tested against real Go, not proved from fmt's source: count such statements apart). THE CARD IS WHAT COUNTS. Prove the row's statement (the work); the ties are given (YtgldgdopabmefaaDoorTie.lean); close each card by the builder's one call (the guide's Derived/Test/ToyasCard.lean, 'card_holds'). Laid BY PROGRAM, IN A SANDBOX (cutbox-door.mjs). By AI agents, Wed Nov 11 2026. No macro, syntax, notation, axiom, sorry.
-/
import Derived.Test.YtgldgdopabmefaaDoorRows
import GoSem.ClaimSeven
namespace Go.Proofs.YtgldgdopabmefaaDoor
namespace Rows

/-- THE TIED CARD OF 'tympanlaw09.LexEnds'. -/
def lexEndsCard : Claim7 := { stood := { row := lexEndsRow, standIns := [], harness := (true, "d296c9d72a4362c48d4d10c83ed2d3b9a3bc381334bff8229cbd8a5544e342fd"), looks := false }, kinds := [], alts := [], laidByText := true, laidKinds := [.data, .data, .data, .data], laidTests := true, laidLooks := .later }
def LexEndsCardSaid : Prop := Claim7.holds Tryd.pinned (.plain (OpenSpec.ofChange lexEndsSpec)) lexEndsCard

/-- THE TIED CARD OF 'tympanlaw09.LexWritten'. -/
def lexWrittenCard : Claim7 := { stood := { row := lexWrittenRow, standIns := [], harness := (true, "d296c9d72a4362c48d4d10c83ed2d3b9a3bc381334bff8229cbd8a5544e342fd"), looks := false }, kinds := [], alts := [], laidByText := true, laidKinds := [.data, .data, .data, .data], laidTests := true, laidLooks := .later }
def LexWrittenCardSaid : Prop := Claim7.holds Tryd.pinned (.plain (OpenSpec.ofChange lexWrittenSpec)) lexWrittenCard

/-- THE TIED CARD OF 'tympanlaw09.LexFrom'. -/
def lexFromCard : Claim7 := { stood := { row := lexFromRow, standIns := [], harness := (true, "d296c9d72a4362c48d4d10c83ed2d3b9a3bc381334bff8229cbd8a5544e342fd"), looks := false }, kinds := [], alts := [], laidByText := true, laidKinds := [.data, .data, .data, .data], laidTests := true, laidLooks := .later }
def LexFromCardSaid : Prop := Claim7.holds Tryd.pinned (.plain (OpenSpec.ofChange lexFromSpec)) lexFromCard

/-- THE SECOND FORM's CARD OF 'tympanlaw09.LexEnds'. -/
def lexEndsUptoCard : Claim7 := { stood := { row := lexEndsUptoRow, standIns := [], harness := (true, "d296c9d72a4362c48d4d10c83ed2d3b9a3bc381334bff8229cbd8a5544e342fd"), looks := false }, kinds := [], alts := [], laidByText := true, laidKinds := [.data, .data, .data, .data], laidTests := true, laidLooks := .later }
def LexEndsUptoCardSaid : Prop := Claim7.holds Tryd.pinned (.plain (OpenSpec.upto lexEndsSpec)) lexEndsUptoCard

/-- THE SECOND FORM's CARD OF 'tympanlaw09.LexWritten'. -/
def lexWrittenUptoCard : Claim7 := { stood := { row := lexWrittenUptoRow, standIns := [], harness := (true, "d296c9d72a4362c48d4d10c83ed2d3b9a3bc381334bff8229cbd8a5544e342fd"), looks := false }, kinds := [], alts := [], laidByText := true, laidKinds := [.data, .data, .data, .data], laidTests := true, laidLooks := .later }
def LexWrittenUptoCardSaid : Prop := Claim7.holds Tryd.pinned (.plain (OpenSpec.upto lexWrittenSpec)) lexWrittenUptoCard

/-- THE SECOND FORM's CARD OF 'tympanlaw09.LexFrom'. -/
def lexFromUptoCard : Claim7 := { stood := { row := lexFromUptoRow, standIns := [], harness := (true, "d296c9d72a4362c48d4d10c83ed2d3b9a3bc381334bff8229cbd8a5544e342fd"), looks := false }, kinds := [], alts := [], laidByText := true, laidKinds := [.data, .data, .data, .data], laidTests := true, laidLooks := .later }
def LexFromUptoCardSaid : Prop := Claim7.holds Tryd.pinned (.plain (OpenSpec.upto lexFromSpec)) lexFromUptoCard
end Rows
end Go.Proofs.YtgldgdopabmefaaDoor
