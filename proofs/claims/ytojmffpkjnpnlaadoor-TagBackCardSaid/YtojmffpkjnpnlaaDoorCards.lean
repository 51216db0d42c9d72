/-
  DERIVED. GIVEN WITH THE SEED: THE CARDS: each row of YtojmffpkjnpnlaaDoorRows.lean that lists a variable, with what it lists TIED to the program's text (the seventh form; the later family's looks); each row that meets fmt, with fmt's text TOLD by the authors' own Lean function (tested against real Go, not proved from fmt's source: count such statements apart). THE CARD IS WHAT COUNTS. Prove the row's statement (the work); the ties are given (YtojmffpkjnpnlaaDoorTie.lean); close each card by the builder's one call (the guide's Derived/Test/ToyasCard.lean, 'card_holds'). Laid BY PROGRAM, IN A SANDBOX (cutbox-door.mjs). By AI agents, Wed Nov 11 2026. No macro, syntax, notation, axiom, sorry.
-/
import Derived.Test.YtojmffpkjnpnlaaDoorRows
import GoSem.ClaimSeven
namespace Go.Proofs.YtojmffpkjnpnlaaDoor
namespace Rows

/-- THE TIED CARD OF 'tympanlaw06.TagReads'. -/
def tagReadsCard : Claim7 := { stood := { row := tagReadsRow, standIns := [], harness := (true, "82cbb16e77763ac7ca5bcbd88e013159ef6b45d6ac9828c2204321ee50e05158"), looks := false }, kinds := [], alts := [], laidByText := true, laidKinds := [.data], laidTests := true, laidLooks := .later }
def TagReadsCardSaid : Prop := Claim7.holds Tryd.pinned (.plain (OpenSpec.ofChange tagReadsSpec)) tagReadsCard

/-- THE TIED CARD OF 'tympanlaw06.TagAll'. -/
def tagAllCard : Claim7 := { stood := { row := tagAllRow, standIns := [], harness := (true, "82cbb16e77763ac7ca5bcbd88e013159ef6b45d6ac9828c2204321ee50e05158"), looks := false }, kinds := [], alts := [], laidByText := true, laidKinds := [.data], laidTests := true, laidLooks := .later }
def TagAllCardSaid : Prop := Claim7.holds Tryd.pinned (.plain (OpenSpec.ofChange tagAllSpec)) tagAllCard

/-- THE TIED CARD OF 'tympanlaw06.TagBack'. -/
def tagBackCard : Claim7 := { stood := { row := tagBackRow, standIns := [], harness := (true, "82cbb16e77763ac7ca5bcbd88e013159ef6b45d6ac9828c2204321ee50e05158"), looks := false }, kinds := [], alts := [], laidByText := true, laidKinds := [.data], laidTests := true, laidLooks := .later }
def TagBackCardSaid : Prop := Claim7.holds Tryd.pinned (.plain (OpenSpec.ofChange tagBackSpec)) tagBackCard

/-- THE TIED CARD OF 'tympanlaw06.TagForms'. -/
def tagFormsCard : Claim7 := { stood := { row := tagFormsRow, standIns := [], harness := (true, "82cbb16e77763ac7ca5bcbd88e013159ef6b45d6ac9828c2204321ee50e05158"), looks := false }, kinds := [], alts := [], laidByText := true, laidKinds := [.data], laidTests := true, laidLooks := .later }
def TagFormsCardSaid : Prop := Claim7.holds Tryd.pinned (.plain (OpenSpec.ofChange tagFormsSpec)) tagFormsCard

/-- THE TIED CARD OF 'tympanlaw06.TagSize'. -/
def tagSizeCard : Claim7 := { stood := { row := tagSizeRow, standIns := [], harness := (true, "82cbb16e77763ac7ca5bcbd88e013159ef6b45d6ac9828c2204321ee50e05158"), looks := false }, kinds := [], alts := [], laidByText := true, laidKinds := [.data], laidTests := true, laidLooks := .later }
def TagSizeCardSaid : Prop := Claim7.holds Tryd.pinned (.plain (OpenSpec.ofChange tagSizeSpec)) tagSizeCard

/-- THE SECOND FORM's CARD OF 'tympanlaw06.TagReads'. -/
def tagReadsUptoCard : Claim7 := { stood := { row := tagReadsUptoRow, standIns := [], harness := (true, "82cbb16e77763ac7ca5bcbd88e013159ef6b45d6ac9828c2204321ee50e05158"), looks := false }, kinds := [], alts := [], laidByText := true, laidKinds := [.data], laidTests := true, laidLooks := .later }
def TagReadsUptoCardSaid : Prop := Claim7.holds Tryd.pinned (.plain (OpenSpec.upto tagReadsSpec)) tagReadsUptoCard

/-- THE SECOND FORM's CARD OF 'tympanlaw06.TagAll'. -/
def tagAllUptoCard : Claim7 := { stood := { row := tagAllUptoRow, standIns := [], harness := (true, "82cbb16e77763ac7ca5bcbd88e013159ef6b45d6ac9828c2204321ee50e05158"), looks := false }, kinds := [], alts := [], laidByText := true, laidKinds := [.data], laidTests := true, laidLooks := .later }
def TagAllUptoCardSaid : Prop := Claim7.holds Tryd.pinned (.plain (OpenSpec.upto tagAllSpec)) tagAllUptoCard

/-- THE SECOND FORM's CARD OF 'tympanlaw06.TagBack'. -/
def tagBackUptoCard : Claim7 := { stood := { row := tagBackUptoRow, standIns := [], harness := (true, "82cbb16e77763ac7ca5bcbd88e013159ef6b45d6ac9828c2204321ee50e05158"), looks := false }, kinds := [], alts := [], laidByText := true, laidKinds := [.data], laidTests := true, laidLooks := .later }
def TagBackUptoCardSaid : Prop := Claim7.holds Tryd.pinned (.plain (OpenSpec.upto tagBackSpec)) tagBackUptoCard

/-- THE SECOND FORM's CARD OF 'tympanlaw06.TagForms'. -/
def tagFormsUptoCard : Claim7 := { stood := { row := tagFormsUptoRow, standIns := [], harness := (true, "82cbb16e77763ac7ca5bcbd88e013159ef6b45d6ac9828c2204321ee50e05158"), looks := false }, kinds := [], alts := [], laidByText := true, laidKinds := [.data], laidTests := true, laidLooks := .later }
def TagFormsUptoCardSaid : Prop := Claim7.holds Tryd.pinned (.plain (OpenSpec.upto tagFormsSpec)) tagFormsUptoCard

/-- THE SECOND FORM's CARD OF 'tympanlaw06.TagSize'. -/
def tagSizeUptoCard : Claim7 := { stood := { row := tagSizeUptoRow, standIns := [], harness := (true, "82cbb16e77763ac7ca5bcbd88e013159ef6b45d6ac9828c2204321ee50e05158"), looks := false }, kinds := [], alts := [], laidByText := true, laidKinds := [.data], laidTests := true, laidLooks := .later }
def TagSizeUptoCardSaid : Prop := Claim7.holds Tryd.pinned (.plain (OpenSpec.upto tagSizeSpec)) tagSizeUptoCard
end Rows
end Go.Proofs.YtojmffpkjnpnlaaDoor
