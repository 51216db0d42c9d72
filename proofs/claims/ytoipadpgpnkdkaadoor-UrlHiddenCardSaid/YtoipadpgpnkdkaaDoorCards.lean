/-
  DERIVED. GIVEN WITH THE SEED: THE CARDS: each row of YtoipadpgpnkdkaaDoorRows.lean that lists a variable, with what it lists TIED to the program's text (the seventh form; the later family's looks); each row that meets fmt, with fmt's text TOLD by the authors' own Lean function (tested against real Go, not proved from fmt's source: count such statements apart). THE CARD IS WHAT COUNTS. Prove the row's statement (the work); the ties are given (YtoipadpgpnkdkaaDoorTie.lean); close each card by the builder's one call (the guide's Derived/Test/ToyasCard.lean, 'card_holds'). Laid BY PROGRAM, IN A SANDBOX (cutbox-door.mjs). By AI agents, Wed Nov 11 2026. No macro, syntax, notation, axiom, sorry.
-/
import Derived.Test.YtoipadpgpnkdkaaDoorRows
import GoSem.ClaimSeven
namespace Go.Proofs.YtoipadpgpnkdkaaDoor
namespace Rows

/-- THE TIED CARD OF 'tympanlaw04.UrlStrips'. -/
def urlStripsCard : Claim7 := { stood := { row := urlStripsRow, standIns := [], harness := (true, "8bb4c6f9e86907052dfeab2482375a80c2d71e89f91eaa9c1f6da61314af2783"), looks := false }, kinds := [], alts := [], laidByText := true, laidKinds := [.data, .pinned], laidTests := true, laidLooks := .later }
def UrlStripsCardSaid : Prop := Claim7.holds Tryd.pinned (.plain (OpenSpec.ofChange urlStripsSpec)) urlStripsCard

/-- THE TIED CARD OF 'tympanlaw04.UrlSchemes'. -/
def urlSchemesCard : Claim7 := { stood := { row := urlSchemesRow, standIns := [], harness := (true, "8bb4c6f9e86907052dfeab2482375a80c2d71e89f91eaa9c1f6da61314af2783"), looks := false }, kinds := [], alts := [], laidByText := true, laidKinds := [.data, .pinned], laidTests := true, laidLooks := .later }
def UrlSchemesCardSaid : Prop := Claim7.holds Tryd.pinned (.plain (OpenSpec.ofChange urlSchemesSpec)) urlSchemesCard

/-- THE TIED CARD OF 'tympanlaw04.UrlEscapes'. -/
def urlEscapesCard : Claim7 := { stood := { row := urlEscapesRow, standIns := [], harness := (true, "8bb4c6f9e86907052dfeab2482375a80c2d71e89f91eaa9c1f6da61314af2783"), looks := false }, kinds := [], alts := [], laidByText := true, laidKinds := [.data, .pinned], laidTests := true, laidLooks := .later }
def UrlEscapesCardSaid : Prop := Claim7.holds Tryd.pinned (.plain (OpenSpec.ofChange urlEscapesSpec)) urlEscapesCard

/-- THE TIED CARD OF 'tympanlaw04.UrlSafe'. -/
def urlSafeCard : Claim7 := { stood := { row := urlSafeRow, standIns := [], harness := (true, "8bb4c6f9e86907052dfeab2482375a80c2d71e89f91eaa9c1f6da61314af2783"), looks := false }, kinds := [], alts := [], laidByText := true, laidKinds := [.data, .pinned], laidTests := true, laidLooks := .later }
def UrlSafeCardSaid : Prop := Claim7.holds Tryd.pinned (.plain (OpenSpec.ofChange urlSafeSpec)) urlSafeCard

/-- THE TIED CARD OF 'tympanlaw04.UrlHidden'. -/
def urlHiddenCard : Claim7 := { stood := { row := urlHiddenRow, standIns := [], harness := (true, "8bb4c6f9e86907052dfeab2482375a80c2d71e89f91eaa9c1f6da61314af2783"), looks := false }, kinds := [], alts := [], laidByText := true, laidKinds := [.data, .pinned], laidTests := true, laidLooks := .later }
def UrlHiddenCardSaid : Prop := Claim7.holds Tryd.pinned (.plain (OpenSpec.ofChange urlHiddenSpec)) urlHiddenCard

/-- THE TIED CARD OF 'tympanlaw04.UrlBack'. -/
def urlBackCard : Claim7 := { stood := { row := urlBackRow, standIns := [], harness := (true, "8bb4c6f9e86907052dfeab2482375a80c2d71e89f91eaa9c1f6da61314af2783"), looks := false }, kinds := [], alts := [], laidByText := true, laidKinds := [.data, .pinned], laidTests := true, laidLooks := .later }
def UrlBackCardSaid : Prop := Claim7.holds Tryd.pinned (.plain (OpenSpec.ofChange urlBackSpec)) urlBackCard

/-- THE SECOND FORM's CARD OF 'tympanlaw04.UrlStrips'. -/
def urlStripsUptoCard : Claim7 := { stood := { row := urlStripsUptoRow, standIns := [], harness := (true, "8bb4c6f9e86907052dfeab2482375a80c2d71e89f91eaa9c1f6da61314af2783"), looks := false }, kinds := [], alts := [], laidByText := true, laidKinds := [.data, .pinned], laidTests := true, laidLooks := .later }
def UrlStripsUptoCardSaid : Prop := Claim7.holds Tryd.pinned (.plain (OpenSpec.upto urlStripsSpec)) urlStripsUptoCard

/-- THE SECOND FORM's CARD OF 'tympanlaw04.UrlSchemes'. -/
def urlSchemesUptoCard : Claim7 := { stood := { row := urlSchemesUptoRow, standIns := [], harness := (true, "8bb4c6f9e86907052dfeab2482375a80c2d71e89f91eaa9c1f6da61314af2783"), looks := false }, kinds := [], alts := [], laidByText := true, laidKinds := [.data, .pinned], laidTests := true, laidLooks := .later }
def UrlSchemesUptoCardSaid : Prop := Claim7.holds Tryd.pinned (.plain (OpenSpec.upto urlSchemesSpec)) urlSchemesUptoCard

/-- THE SECOND FORM's CARD OF 'tympanlaw04.UrlEscapes'. -/
def urlEscapesUptoCard : Claim7 := { stood := { row := urlEscapesUptoRow, standIns := [], harness := (true, "8bb4c6f9e86907052dfeab2482375a80c2d71e89f91eaa9c1f6da61314af2783"), looks := false }, kinds := [], alts := [], laidByText := true, laidKinds := [.data, .pinned], laidTests := true, laidLooks := .later }
def UrlEscapesUptoCardSaid : Prop := Claim7.holds Tryd.pinned (.plain (OpenSpec.upto urlEscapesSpec)) urlEscapesUptoCard

/-- THE SECOND FORM's CARD OF 'tympanlaw04.UrlSafe'. -/
def urlSafeUptoCard : Claim7 := { stood := { row := urlSafeUptoRow, standIns := [], harness := (true, "8bb4c6f9e86907052dfeab2482375a80c2d71e89f91eaa9c1f6da61314af2783"), looks := false }, kinds := [], alts := [], laidByText := true, laidKinds := [.data, .pinned], laidTests := true, laidLooks := .later }
def UrlSafeUptoCardSaid : Prop := Claim7.holds Tryd.pinned (.plain (OpenSpec.upto urlSafeSpec)) urlSafeUptoCard

/-- THE SECOND FORM's CARD OF 'tympanlaw04.UrlHidden'. -/
def urlHiddenUptoCard : Claim7 := { stood := { row := urlHiddenUptoRow, standIns := [], harness := (true, "8bb4c6f9e86907052dfeab2482375a80c2d71e89f91eaa9c1f6da61314af2783"), looks := false }, kinds := [], alts := [], laidByText := true, laidKinds := [.data, .pinned], laidTests := true, laidLooks := .later }
def UrlHiddenUptoCardSaid : Prop := Claim7.holds Tryd.pinned (.plain (OpenSpec.upto urlHiddenSpec)) urlHiddenUptoCard

/-- THE SECOND FORM's CARD OF 'tympanlaw04.UrlBack'. -/
def urlBackUptoCard : Claim7 := { stood := { row := urlBackUptoRow, standIns := [], harness := (true, "8bb4c6f9e86907052dfeab2482375a80c2d71e89f91eaa9c1f6da61314af2783"), looks := false }, kinds := [], alts := [], laidByText := true, laidKinds := [.data, .pinned], laidTests := true, laidLooks := .later }
def UrlBackUptoCardSaid : Prop := Claim7.holds Tryd.pinned (.plain (OpenSpec.upto urlBackSpec)) urlBackUptoCard
end Rows
end Go.Proofs.YtoipadpgpnkdkaaDoor
