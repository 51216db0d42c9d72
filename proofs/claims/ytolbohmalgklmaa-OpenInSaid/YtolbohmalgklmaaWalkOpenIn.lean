/- The walk of the statement OpenIn. -/
import Derived.Test.YtolbohmalgklmaaFrameO
import Derived.Test.YtolbohmalgklmaaOpenRf
namespace Go.Proofs.Ytolbohmalgklmaa.openIn
open Go.ChangeShapes Go.WideShapes Go.ChangeAt Go.RowKit Go.Lib
open Go.ChangeMaps (open_string shut_string)
set_option maxRecDepth 100000
set_option linter.unusedVariables false

set_option maxHeartbeats 8000000 in
theorem walk (w : World) (hT : AnyW w) (a : Option Addr) (len cap : Nat) (l : List Opn.E) (h : IsE w a len l) (hf : ∀ x ∈ l, eFits x) (h1 : len ≤ cap) (h2 : cap ≤ 9223372036854775807) (h3 : a = none → cap = 0)
    (x : Int) (wx : (Lit.int .u8 x).wf = true) (b : Option Addr) (bn bc : Nat) (ns : List (List UInt8)) (g : IsS w b bn ns) (gf : ∀ s ∈ ns, s.length ≤ 9223372036854775807) (g1 : bn ≤ bc) (g2 : bc ≤ 9223372036854775807) (g3 : b = none → bc = 0) :
    Calls Try.prog 3 #[.slice a len cap, .int .u8 x, .slice b bn bc] w fun e w' => e = .returned (.bool true) ∧ Below w.heap.size w w' := by
  obtain ⟨sc, rfl, hsc⟩ := byte_of wx
  have HM := hid (much_any a len cap l b bn bc ns w h hf g gf h1 h2 g1 g2)
  have HE := hid fun (hl : len ≤ 3000) => elems_in h hf h1 h2 hl
  have HG := hid fun (hb : bn ≤ 100) => names_in g g1 g2 hb
  clear h hf h1 h2 h3 g gf g1 g2 g3 wx hT
  go_enter Try.func3, Try.ntmps3
  go_wp2_with fail
  refine HM.out.mono ?_
  rintro e w2 ⟨rfl, c, rfl, hc⟩
  clear HM
  cases c with
  | true =>
    clear hc
    go_wp2
    go_ret
    exact ⟨rfl, Below.refl _ _⟩
  | false =>
    obtain ⟨hl, hbn⟩ := hc rfl
    have E := hid (HE.out hl)
    have N := hid (HG.out hbn)
    clear hc HE HG hl hbn
    go_wp2_with fail
    refine (known_any w).mono ?_
    rintro e w3 ⟨rfl, b3⟩
    have B3 := hid b3
    clear b3
    go_wp2_with fail
    refine (pin_any a len cap l sc b bn bc ns w3 (E.out.below B3.out) (N.out.below B3.out) hsc).mono ?_
    rintro e w4 ⟨rfl, b4⟩
    have B4 := hid (B3.out.trans (b4.mono B3.out.size))
    clear b4
    go_wp2_with fail
    refine (rin_any a len cap l sc b bn bc ns w4 (E.out.below B4.out) (N.out.below B4.out) hsc).mono ?_
    rintro e w5 ⟨rfl, b5⟩
    have B5 := hid (B4.out.trans (b5.mono B4.out.size))
    clear b5
    generalize Opn.inB l sc ns len = R at *
    go_wp2
    go_ret
    exact ⟨ret_bool' (by simp), B5.out⟩
end Go.Proofs.Ytolbohmalgklmaa.openIn
