/-
  DERIVED. GIVEN WITH THE SEED: THE CARDS: each row of YthfaogodiefefaaDoorRows.lean that lists a variable, with what it lists TIED to the program's text (the seventh form; the later family's looks); each row that meets fmt, with fmt's text TOLD by the authors' own Lean function (tested against real Go, not proved from fmt's source: count such statements apart). THE CARD IS WHAT COUNTS. Prove the row's statement (the work); the ties are given (YthfaogodiefefaaDoorTie.lean); close each card by the builder's one call (the guide's Derived/Test/ToyasCard.lean, 'card_holds'). Laid BY PROGRAM, IN A SANDBOX (cutbox-door.mjs). By AI agents, Wed Nov 11 2026. No macro, syntax, notation, axiom, sorry.
-/
import Derived.Test.YthfaogodiefefaaDoorRows
import GoSem.ClaimSeven
namespace Go.Proofs.YthfaogodiefefaaDoor
namespace Rows

/-- THE TIED CARD OF 'tympanlaw03.EntNames'. -/
def entNamesCard : Claim7 := { stood := { row := entNamesRow, standIns := [], harness := (true, "9f03693751330730edbdcc591845621d40d95269de749f76d35dd2449991bf06"), looks := false }, kinds := [], alts := [], laidByText := true, laidKinds := [.data], laidTests := true, laidLooks := .later }
def EntNamesCardSaid : Prop := Claim7.holds Tryd.pinned (.plain (OpenSpec.ofChange entNamesSpec)) entNamesCard

/-- THE TIED CARD OF 'tympanlaw03.EntNumbers'. -/
def entNumbersCard : Claim7 := { stood := { row := entNumbersRow, standIns := [], harness := (true, "9f03693751330730edbdcc591845621d40d95269de749f76d35dd2449991bf06"), looks := false }, kinds := [], alts := [], laidByText := true, laidKinds := [.data], laidTests := true, laidLooks := .later }
def EntNumbersCardSaid : Prop := Claim7.holds Tryd.pinned (.plain (OpenSpec.ofChange entNumbersSpec)) entNumbersCard

/-- THE TIED CARD OF 'tympanlaw03.EntDecodes'. -/
def entDecodesCard : Claim7 := { stood := { row := entDecodesRow, standIns := [], harness := (true, "9f03693751330730edbdcc591845621d40d95269de749f76d35dd2449991bf06"), looks := false }, kinds := [], alts := [], laidByText := true, laidKinds := [.data], laidTests := true, laidLooks := .later }
def EntDecodesCardSaid : Prop := Claim7.holds Tryd.pinned (.plain (OpenSpec.ofChange entDecodesSpec)) entDecodesCard

/-- THE TIED CARD OF 'tympanlaw03.EntMarks'. -/
def entMarksCard : Claim7 := { stood := { row := entMarksRow, standIns := [], harness := (true, "9f03693751330730edbdcc591845621d40d95269de749f76d35dd2449991bf06"), looks := false }, kinds := [], alts := [], laidByText := true, laidKinds := [.data], laidTests := true, laidLooks := .later }
def EntMarksCardSaid : Prop := Claim7.holds Tryd.pinned (.plain (OpenSpec.ofChange entMarksSpec)) entMarksCard

/-- THE TIED CARD OF 'tympanlaw03.EntEscaped'. -/
def entEscapedCard : Claim7 := { stood := { row := entEscapedRow, standIns := [], harness := (true, "9f03693751330730edbdcc591845621d40d95269de749f76d35dd2449991bf06"), looks := false }, kinds := [], alts := [], laidByText := true, laidKinds := [.data], laidTests := true, laidLooks := .later }
def EntEscapedCardSaid : Prop := Claim7.holds Tryd.pinned (.plain (OpenSpec.ofChange entEscapedSpec)) entEscapedCard

/-- THE TIED CARD OF 'tympanlaw03.EntRight'. -/
def entRightCard : Claim7 := { stood := { row := entRightRow, standIns := [], harness := (true, "9f03693751330730edbdcc591845621d40d95269de749f76d35dd2449991bf06"), looks := false }, kinds := [], alts := [], laidByText := true, laidKinds := [.data], laidTests := true, laidLooks := .later }
def EntRightCardSaid : Prop := Claim7.holds Tryd.pinned (.plain (OpenSpec.ofChange entRightSpec)) entRightCard

/-- THE TIED CARD OF 'tympanlaw03.EntLongest'. -/
def entLongestCard : Claim7 := { stood := { row := entLongestRow, standIns := [], harness := (true, "9f03693751330730edbdcc591845621d40d95269de749f76d35dd2449991bf06"), looks := false }, kinds := [], alts := [], laidByText := true, laidKinds := [.data], laidTests := true, laidLooks := .later }
def EntLongestCardSaid : Prop := Claim7.holds Tryd.pinned (.plain (OpenSpec.ofChange entLongestSpec)) entLongestCard

/-- THE SECOND FORM's CARD OF 'tympanlaw03.EntNames'. -/
def entNamesUptoCard : Claim7 := { stood := { row := entNamesUptoRow, standIns := [], harness := (true, "9f03693751330730edbdcc591845621d40d95269de749f76d35dd2449991bf06"), looks := false }, kinds := [], alts := [], laidByText := true, laidKinds := [.data], laidTests := true, laidLooks := .later }
def EntNamesUptoCardSaid : Prop := Claim7.holds Tryd.pinned (.plain (OpenSpec.upto entNamesSpec)) entNamesUptoCard

/-- THE SECOND FORM's CARD OF 'tympanlaw03.EntNumbers'. -/
def entNumbersUptoCard : Claim7 := { stood := { row := entNumbersUptoRow, standIns := [], harness := (true, "9f03693751330730edbdcc591845621d40d95269de749f76d35dd2449991bf06"), looks := false }, kinds := [], alts := [], laidByText := true, laidKinds := [.data], laidTests := true, laidLooks := .later }
def EntNumbersUptoCardSaid : Prop := Claim7.holds Tryd.pinned (.plain (OpenSpec.upto entNumbersSpec)) entNumbersUptoCard

/-- THE SECOND FORM's CARD OF 'tympanlaw03.EntDecodes'. -/
def entDecodesUptoCard : Claim7 := { stood := { row := entDecodesUptoRow, standIns := [], harness := (true, "9f03693751330730edbdcc591845621d40d95269de749f76d35dd2449991bf06"), looks := false }, kinds := [], alts := [], laidByText := true, laidKinds := [.data], laidTests := true, laidLooks := .later }
def EntDecodesUptoCardSaid : Prop := Claim7.holds Tryd.pinned (.plain (OpenSpec.upto entDecodesSpec)) entDecodesUptoCard

/-- THE SECOND FORM's CARD OF 'tympanlaw03.EntMarks'. -/
def entMarksUptoCard : Claim7 := { stood := { row := entMarksUptoRow, standIns := [], harness := (true, "9f03693751330730edbdcc591845621d40d95269de749f76d35dd2449991bf06"), looks := false }, kinds := [], alts := [], laidByText := true, laidKinds := [.data], laidTests := true, laidLooks := .later }
def EntMarksUptoCardSaid : Prop := Claim7.holds Tryd.pinned (.plain (OpenSpec.upto entMarksSpec)) entMarksUptoCard

/-- THE SECOND FORM's CARD OF 'tympanlaw03.EntEscaped'. -/
def entEscapedUptoCard : Claim7 := { stood := { row := entEscapedUptoRow, standIns := [], harness := (true, "9f03693751330730edbdcc591845621d40d95269de749f76d35dd2449991bf06"), looks := false }, kinds := [], alts := [], laidByText := true, laidKinds := [.data], laidTests := true, laidLooks := .later }
def EntEscapedUptoCardSaid : Prop := Claim7.holds Tryd.pinned (.plain (OpenSpec.upto entEscapedSpec)) entEscapedUptoCard

/-- THE SECOND FORM's CARD OF 'tympanlaw03.EntRight'. -/
def entRightUptoCard : Claim7 := { stood := { row := entRightUptoRow, standIns := [], harness := (true, "9f03693751330730edbdcc591845621d40d95269de749f76d35dd2449991bf06"), looks := false }, kinds := [], alts := [], laidByText := true, laidKinds := [.data], laidTests := true, laidLooks := .later }
def EntRightUptoCardSaid : Prop := Claim7.holds Tryd.pinned (.plain (OpenSpec.upto entRightSpec)) entRightUptoCard

/-- THE SECOND FORM's CARD OF 'tympanlaw03.EntLongest'. -/
def entLongestUptoCard : Claim7 := { stood := { row := entLongestUptoRow, standIns := [], harness := (true, "9f03693751330730edbdcc591845621d40d95269de749f76d35dd2449991bf06"), looks := false }, kinds := [], alts := [], laidByText := true, laidKinds := [.data], laidTests := true, laidLooks := .later }
def EntLongestUptoCardSaid : Prop := Claim7.holds Tryd.pinned (.plain (OpenSpec.upto entLongestSpec)) entLongestUptoCard
end Rows
end Go.Proofs.YthfaogodiefefaaDoor
