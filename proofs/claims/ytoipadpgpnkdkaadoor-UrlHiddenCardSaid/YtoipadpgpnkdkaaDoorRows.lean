/-
  NARROWER THAN 'FOR EVERY INPUT', by the rows' own cells (each row's printed sentence says how): UrlStrips: laid · UrlSchemes: laid · UrlEscapes: laid · UrlSafe: laid · UrlHidden: laid · UrlBack: laid.
  DERIVED. THE GIVEN ROWS OF THIS SEAT. 6 by the template 'for every input the law returns true; each argument reads behind the call as it read before'; 0 by the template 'total and deterministic' (their statements: YtoipadpgpnkdkaaDoorTotals.lean).
  GIVEN WITH THE SEED: the statements are not yours to turn. If you find one false, say at which input.
  Laid BY PROGRAM, IN A SANDBOX (cutbox-rows.mjs): the forced cells as the released guide's own fill.sh prints them over the translation c2ca60651aae0e50… (all of the seat's roots in one cut). By AI agents, Wed Nov 11 2026. No macro, syntax, notation, axiom, sorry.
-/
import Derived.Test.YtoipadpgpnkdkaaDoorChecked
import GoSem.PinnedTables
import GoSem.Claim
import GoSem.ClaimJoined
import GoSem.ClaimMapViews
import Derived.JoinedTies
import Derived.KernelRfl
namespace Go.Proofs.YtoipadpgpnkdkaaDoor
/- THE CELL 'sum', in the pinned program and in every row, IS THE sha256 OF THE DUMP (.gsa) THAT YtoipadpgpnkdkaaDoorProg.lean LOADS. Nothing in Lean hashes anything: it is a label: what it is worth is what the hold of that sum in a sandbox is worth. -/
noncomputable def Tryd.pinned : Pinned := { name := "ytoipadpgpnkdkaadoor", sum := "c2ca60651aae0e509bd7795803fd660a6e212dbea57047e844986101d14a76e4", checked := Tryd.checked }
namespace Rows
def none {H : Type} : Left H := { results := [], args := [] }

/- WHAT THE LISTED PACKAGE-LEVEL VARIABLES READ AS WHEN THE CALL BEGINS. Each datum BY PROGRAM (the guide's laid-datum.mjs) off the statement by which the dump's own 'gosem.cut.vars' lays the variable. In a bare row this is a premise. The card (YtoipadpgpnkdkaaDoorCards.lean) ties it to the program's text. -/
def laid_unicode_utf8_acceptRanges {H : Type} : DataW H := .agg [.agg [.lit (.int .u8 128), .lit (.int .u8 191)], .agg [.lit (.int .u8 160), .lit (.int .u8 191)], .agg [.lit (.int .u8 128), .lit (.int .u8 159)], .agg [.lit (.int .u8 144), .lit (.int .u8 191)], .agg [.lit (.int .u8 128), .lit (.int .u8 143)], .agg [.lit (.int .u8 0), .lit (.int .u8 0)], .agg [.lit (.int .u8 0), .lit (.int .u8 0)], .agg [.lit (.int .u8 0), .lit (.int .u8 0)], .agg [.lit (.int .u8 0), .lit (.int .u8 0)], .agg [.lit (.int .u8 0), .lit (.int .u8 0)], .agg [.lit (.int .u8 0), .lit (.int .u8 0)], .agg [.lit (.int .u8 0), .lit (.int .u8 0)], .agg [.lit (.int .u8 0), .lit (.int .u8 0)], .agg [.lit (.int .u8 0), .lit (.int .u8 0)], .agg [.lit (.int .u8 0), .lit (.int .u8 0)], .agg [.lit (.int .u8 0), .lit (.int .u8 0)]]
/-- One of Go's own tables, pinned by name: the form's constant. -/
def laid_unicode_utf8_first : DataW Unit := Go.Pinned.utf8First

/-- 'tympanlaw04.UrlStrips': WHATEVER THE INPUT: true; the input reads as it did. -/
def urlStripsSpec : ChangeSpec := { name := "urlStrips", fn := fun _ => fun
  | [d] => { results := [.lit (.bool true)], args := [d] }
  | _ => none }
def urlStripsRow : OpenClaim := { program := "ytoipadpgpnkdkaadoor", sum := "c2ca60651aae0e509bd7795803fd660a6e212dbea57047e844986101d14a76e4", func := "tympan/tympanlaw04.UrlStrips", spec := "urlStrips", inPlace := ["internal/abi.NoEscape", "internal/bytealg.MakeNoZero", "internal/bytealg.IndexByteString", "internal/bytealg.IndexString"], unfollowed := true, recurses := true, named := ["unicode/utf8.first", "unicode/utf8.acceptRanges", "internal/bytealg.MaxLen"], apart := false, laid := [("unicode/utf8.acceptRanges", laid_unicode_utf8_acceptRanges), ("unicode/utf8.first", laid_unicode_utf8_first)] }
def UrlStripsSaid : Prop := urlStripsRow.holds Tryd.pinned (OpenSpec.ofChange urlStripsSpec)

/-- ITS FALSE NEIGHBOUR: 'it returns false'. Refute it at one input. -/
def urlStripsWrong : ChangeSpec := { name := "urlStrips", fn := fun _ => fun
  | [d] => { results := [.lit (.bool false)], args := [d] }
  | _ => none }
def UrlStripsWrongFalsely : Prop := urlStripsRow.holds Tryd.pinned (OpenSpec.ofChange urlStripsWrong)

/-- 'tympanlaw04.UrlSchemes': WHATEVER THE INPUT: true; the input reads as it did. -/
def urlSchemesSpec : ChangeSpec := { name := "urlSchemes", fn := fun _ => fun
  | [d] => { results := [.lit (.bool true)], args := [d] }
  | _ => none }
def urlSchemesRow : OpenClaim := { program := "ytoipadpgpnkdkaadoor", sum := "c2ca60651aae0e509bd7795803fd660a6e212dbea57047e844986101d14a76e4", func := "tympan/tympanlaw04.UrlSchemes", spec := "urlSchemes", inPlace := ["internal/abi.NoEscape", "internal/bytealg.MakeNoZero", "internal/bytealg.IndexByteString", "internal/bytealg.IndexString"], unfollowed := true, recurses := true, named := ["unicode/utf8.first", "unicode/utf8.acceptRanges", "internal/bytealg.MaxLen"], apart := false, laid := [("unicode/utf8.acceptRanges", laid_unicode_utf8_acceptRanges), ("unicode/utf8.first", laid_unicode_utf8_first)] }
def UrlSchemesSaid : Prop := urlSchemesRow.holds Tryd.pinned (OpenSpec.ofChange urlSchemesSpec)

/-- ITS FALSE NEIGHBOUR: 'it returns false'. Refute it at one input. -/
def urlSchemesWrong : ChangeSpec := { name := "urlSchemes", fn := fun _ => fun
  | [d] => { results := [.lit (.bool false)], args := [d] }
  | _ => none }
def UrlSchemesWrongFalsely : Prop := urlSchemesRow.holds Tryd.pinned (OpenSpec.ofChange urlSchemesWrong)

/-- 'tympanlaw04.UrlEscapes': WHATEVER THE INPUT: true; the input reads as it did. -/
def urlEscapesSpec : ChangeSpec := { name := "urlEscapes", fn := fun _ => fun
  | [d] => { results := [.lit (.bool true)], args := [d] }
  | _ => none }
def urlEscapesRow : OpenClaim := { program := "ytoipadpgpnkdkaadoor", sum := "c2ca60651aae0e509bd7795803fd660a6e212dbea57047e844986101d14a76e4", func := "tympan/tympanlaw04.UrlEscapes", spec := "urlEscapes", inPlace := ["internal/bytealg.IndexByteString", "internal/abi.NoEscape", "internal/bytealg.MakeNoZero", "internal/bytealg.IndexString"], unfollowed := true, recurses := true, named := ["unicode/utf8.first", "unicode/utf8.acceptRanges", "internal/bytealg.MaxLen"], apart := false, laid := [("unicode/utf8.acceptRanges", laid_unicode_utf8_acceptRanges), ("unicode/utf8.first", laid_unicode_utf8_first)] }
def UrlEscapesSaid : Prop := urlEscapesRow.holds Tryd.pinned (OpenSpec.ofChange urlEscapesSpec)

/-- ITS FALSE NEIGHBOUR: 'it returns false'. Refute it at one input. -/
def urlEscapesWrong : ChangeSpec := { name := "urlEscapes", fn := fun _ => fun
  | [d] => { results := [.lit (.bool false)], args := [d] }
  | _ => none }
def UrlEscapesWrongFalsely : Prop := urlEscapesRow.holds Tryd.pinned (OpenSpec.ofChange urlEscapesWrong)

/-- 'tympanlaw04.UrlSafe': WHATEVER THE INPUT: true; the input reads as it did. -/
def urlSafeSpec : ChangeSpec := { name := "urlSafe", fn := fun _ => fun
  | [d1, d2] => { results := [.lit (.bool true)], args := [d1, d2] }
  | _ => none }
def urlSafeRow : OpenClaim := { program := "ytoipadpgpnkdkaadoor", sum := "c2ca60651aae0e509bd7795803fd660a6e212dbea57047e844986101d14a76e4", func := "tympan/tympanlaw04.UrlSafe", spec := "urlSafe", inPlace := ["internal/abi.NoEscape", "internal/bytealg.MakeNoZero", "internal/bytealg.IndexByteString", "internal/bytealg.IndexString"], unfollowed := true, recurses := true, named := ["unicode/utf8.first", "unicode/utf8.acceptRanges", "internal/bytealg.MaxLen"], apart := false, laid := [("unicode/utf8.acceptRanges", laid_unicode_utf8_acceptRanges), ("unicode/utf8.first", laid_unicode_utf8_first)] }
def UrlSafeSaid : Prop := urlSafeRow.holds Tryd.pinned (OpenSpec.ofChange urlSafeSpec)

/-- ITS FALSE NEIGHBOUR: 'it returns false'. Refute it at one input. -/
def urlSafeWrong : ChangeSpec := { name := "urlSafe", fn := fun _ => fun
  | [d1, d2] => { results := [.lit (.bool false)], args := [d1, d2] }
  | _ => none }
def UrlSafeWrongFalsely : Prop := urlSafeRow.holds Tryd.pinned (OpenSpec.ofChange urlSafeWrong)

/-- 'tympanlaw04.UrlHidden': WHATEVER THE INPUT: true; the input reads as it did. -/
def urlHiddenSpec : ChangeSpec := { name := "urlHidden", fn := fun _ => fun
  | [d1, d2, d3] => { results := [.lit (.bool true)], args := [d1, d2, d3] }
  | _ => none }
def urlHiddenRow : OpenClaim := { program := "ytoipadpgpnkdkaadoor", sum := "c2ca60651aae0e509bd7795803fd660a6e212dbea57047e844986101d14a76e4", func := "tympan/tympanlaw04.UrlHidden", spec := "urlHidden", inPlace := ["internal/abi.NoEscape", "internal/bytealg.MakeNoZero", "internal/bytealg.IndexByteString", "internal/bytealg.IndexString"], unfollowed := true, recurses := true, named := ["unicode/utf8.first", "unicode/utf8.acceptRanges", "internal/bytealg.MaxLen"], apart := false, laid := [("unicode/utf8.acceptRanges", laid_unicode_utf8_acceptRanges), ("unicode/utf8.first", laid_unicode_utf8_first)] }
def UrlHiddenSaid : Prop := urlHiddenRow.holds Tryd.pinned (OpenSpec.ofChange urlHiddenSpec)

/-- ITS FALSE NEIGHBOUR: 'it returns false'. Refute it at one input. -/
def urlHiddenWrong : ChangeSpec := { name := "urlHidden", fn := fun _ => fun
  | [d1, d2, d3] => { results := [.lit (.bool false)], args := [d1, d2, d3] }
  | _ => none }
def UrlHiddenWrongFalsely : Prop := urlHiddenRow.holds Tryd.pinned (OpenSpec.ofChange urlHiddenWrong)

/-- 'tympanlaw04.UrlBack': WHATEVER THE INPUT: true; the input reads as it did. -/
def urlBackSpec : ChangeSpec := { name := "urlBack", fn := fun _ => fun
  | [d] => { results := [.lit (.bool true)], args := [d] }
  | _ => none }
def urlBackRow : OpenClaim := { program := "ytoipadpgpnkdkaadoor", sum := "c2ca60651aae0e509bd7795803fd660a6e212dbea57047e844986101d14a76e4", func := "tympan/tympanlaw04.UrlBack", spec := "urlBack", inPlace := ["internal/abi.NoEscape", "internal/bytealg.MakeNoZero", "internal/bytealg.IndexByteString", "internal/bytealg.IndexString"], unfollowed := true, recurses := true, named := ["unicode/utf8.first", "unicode/utf8.acceptRanges", "internal/bytealg.MaxLen"], apart := false, laid := [("unicode/utf8.acceptRanges", laid_unicode_utf8_acceptRanges), ("unicode/utf8.first", laid_unicode_utf8_first)] }
def UrlBackSaid : Prop := urlBackRow.holds Tryd.pinned (OpenSpec.ofChange urlBackSpec)

/-- ITS FALSE NEIGHBOUR: 'it returns false'. Refute it at one input. -/
def urlBackWrong : ChangeSpec := { name := "urlBack", fn := fun _ => fun
  | [d] => { results := [.lit (.bool false)], args := [d] }
  | _ => none }
def UrlBackWrongFalsely : Prop := urlBackRow.holds Tryd.pinned (OpenSpec.ofChange urlBackWrong)

/- THE SECOND FORM. 'bulk': how many values and letters a reading holds, each counted each time it is reached (what is shared counts as often as it is met; a slice's spare places count too). A statement '..UptoSaid' is the law's where the arguments, and the package variables that the reading takes, are together of bulk at most 1048576: NARROWER than '..Said'. Prove '..Said' where nothing that the law and all that it calls make is longer than what came in: it says more and counts as full. Else prove '..UptoSaid'. A law counts once. -/
mutual
def uptoBulk {H : Type} : DataW H → Nat
  | .lit (.string bytes) => bytes.length + 1
  | .lit _ => 1
  | .nil => 1
  | .ptr d => uptoBulk d + 1
  | .slice elems spare => uptoBulkAll elems + uptoBulkAll spare + 1
  | .agg parts => uptoBulkAll parts + 1
  | .iface _ d => uptoBulk d + 1
  | .map entries => uptoBulkEntries entries + 1
  | .held _ => 1
def uptoBulkAll {H : Type} : List (DataW H) → Nat
  | [] => 0
  | d :: r => uptoBulk d + uptoBulkAll r
def uptoBulkEntries {H : Type} : List (Lit × DataW H) → Nat
  | [] => 0
  | x :: r => uptoBulkEntry x + uptoBulkEntries r
def uptoBulkEntry {H : Type} : Lit × DataW H → Nat
  | (.string bytes, d) => bytes.length + uptoBulk d + 1
  | (_, d) => uptoBulk d + 1
 end
def uptoSmall : (H : Type) → List (DataW H) → Bool := fun _ ds => decide (uptoBulkAll ds ≤ 1048576)
def OpenSpec.upto (s : _root_.Go.ChangeSpec) : _root_.Go.OpenSpec := { _root_.Go.OpenSpec.ofChange s with cond := some uptoSmall }

/-- 'tympanlaw04.UrlStrips', WHERE WHAT IT READS IS OF BULK AT MOST 1048576: true; the input reads as it did. -/
def urlStripsUptoRow : OpenClaim := { program := "ytoipadpgpnkdkaadoor", sum := "c2ca60651aae0e509bd7795803fd660a6e212dbea57047e844986101d14a76e4", func := "tympan/tympanlaw04.UrlStrips", spec := "urlStrips", inPlace := ["internal/abi.NoEscape", "internal/bytealg.MakeNoZero", "internal/bytealg.IndexByteString", "internal/bytealg.IndexString"], unfollowed := true, recurses := true, named := ["unicode/utf8.first", "unicode/utf8.acceptRanges", "internal/bytealg.MaxLen"], apart := false, laid := [("unicode/utf8.acceptRanges", laid_unicode_utf8_acceptRanges), ("unicode/utf8.first", laid_unicode_utf8_first)], narrowed := true }
def UrlStripsUptoSaid : Prop := urlStripsUptoRow.holds Tryd.pinned (OpenSpec.upto urlStripsSpec)

/-- 'tympanlaw04.UrlSchemes', WHERE WHAT IT READS IS OF BULK AT MOST 1048576: true; the input reads as it did. -/
def urlSchemesUptoRow : OpenClaim := { program := "ytoipadpgpnkdkaadoor", sum := "c2ca60651aae0e509bd7795803fd660a6e212dbea57047e844986101d14a76e4", func := "tympan/tympanlaw04.UrlSchemes", spec := "urlSchemes", inPlace := ["internal/abi.NoEscape", "internal/bytealg.MakeNoZero", "internal/bytealg.IndexByteString", "internal/bytealg.IndexString"], unfollowed := true, recurses := true, named := ["unicode/utf8.first", "unicode/utf8.acceptRanges", "internal/bytealg.MaxLen"], apart := false, laid := [("unicode/utf8.acceptRanges", laid_unicode_utf8_acceptRanges), ("unicode/utf8.first", laid_unicode_utf8_first)], narrowed := true }
def UrlSchemesUptoSaid : Prop := urlSchemesUptoRow.holds Tryd.pinned (OpenSpec.upto urlSchemesSpec)

/-- 'tympanlaw04.UrlEscapes', WHERE WHAT IT READS IS OF BULK AT MOST 1048576: true; the input reads as it did. -/
def urlEscapesUptoRow : OpenClaim := { program := "ytoipadpgpnkdkaadoor", sum := "c2ca60651aae0e509bd7795803fd660a6e212dbea57047e844986101d14a76e4", func := "tympan/tympanlaw04.UrlEscapes", spec := "urlEscapes", inPlace := ["internal/bytealg.IndexByteString", "internal/abi.NoEscape", "internal/bytealg.MakeNoZero", "internal/bytealg.IndexString"], unfollowed := true, recurses := true, named := ["unicode/utf8.first", "unicode/utf8.acceptRanges", "internal/bytealg.MaxLen"], apart := false, laid := [("unicode/utf8.acceptRanges", laid_unicode_utf8_acceptRanges), ("unicode/utf8.first", laid_unicode_utf8_first)], narrowed := true }
def UrlEscapesUptoSaid : Prop := urlEscapesUptoRow.holds Tryd.pinned (OpenSpec.upto urlEscapesSpec)

/-- 'tympanlaw04.UrlSafe', WHERE WHAT IT READS IS OF BULK AT MOST 1048576: true; the input reads as it did. -/
def urlSafeUptoRow : OpenClaim := { program := "ytoipadpgpnkdkaadoor", sum := "c2ca60651aae0e509bd7795803fd660a6e212dbea57047e844986101d14a76e4", func := "tympan/tympanlaw04.UrlSafe", spec := "urlSafe", inPlace := ["internal/abi.NoEscape", "internal/bytealg.MakeNoZero", "internal/bytealg.IndexByteString", "internal/bytealg.IndexString"], unfollowed := true, recurses := true, named := ["unicode/utf8.first", "unicode/utf8.acceptRanges", "internal/bytealg.MaxLen"], apart := false, laid := [("unicode/utf8.acceptRanges", laid_unicode_utf8_acceptRanges), ("unicode/utf8.first", laid_unicode_utf8_first)], narrowed := true }
def UrlSafeUptoSaid : Prop := urlSafeUptoRow.holds Tryd.pinned (OpenSpec.upto urlSafeSpec)

/-- 'tympanlaw04.UrlHidden', WHERE WHAT IT READS IS OF BULK AT MOST 1048576: true; the input reads as it did. -/
def urlHiddenUptoRow : OpenClaim := { program := "ytoipadpgpnkdkaadoor", sum := "c2ca60651aae0e509bd7795803fd660a6e212dbea57047e844986101d14a76e4", func := "tympan/tympanlaw04.UrlHidden", spec := "urlHidden", inPlace := ["internal/abi.NoEscape", "internal/bytealg.MakeNoZero", "internal/bytealg.IndexByteString", "internal/bytealg.IndexString"], unfollowed := true, recurses := true, named := ["unicode/utf8.first", "unicode/utf8.acceptRanges", "internal/bytealg.MaxLen"], apart := false, laid := [("unicode/utf8.acceptRanges", laid_unicode_utf8_acceptRanges), ("unicode/utf8.first", laid_unicode_utf8_first)], narrowed := true }
def UrlHiddenUptoSaid : Prop := urlHiddenUptoRow.holds Tryd.pinned (OpenSpec.upto urlHiddenSpec)

/-- 'tympanlaw04.UrlBack', WHERE WHAT IT READS IS OF BULK AT MOST 1048576: true; the input reads as it did. -/
def urlBackUptoRow : OpenClaim := { program := "ytoipadpgpnkdkaadoor", sum := "c2ca60651aae0e509bd7795803fd660a6e212dbea57047e844986101d14a76e4", func := "tympan/tympanlaw04.UrlBack", spec := "urlBack", inPlace := ["internal/abi.NoEscape", "internal/bytealg.MakeNoZero", "internal/bytealg.IndexByteString", "internal/bytealg.IndexString"], unfollowed := true, recurses := true, named := ["unicode/utf8.first", "unicode/utf8.acceptRanges", "internal/bytealg.MaxLen"], apart := false, laid := [("unicode/utf8.acceptRanges", laid_unicode_utf8_acceptRanges), ("unicode/utf8.first", laid_unicode_utf8_first)], narrowed := true }
def UrlBackUptoSaid : Prop := urlBackUptoRow.holds Tryd.pinned (OpenSpec.upto urlBackSpec)

end Rows
end Go.Proofs.YtoipadpgpnkdkaaDoor
