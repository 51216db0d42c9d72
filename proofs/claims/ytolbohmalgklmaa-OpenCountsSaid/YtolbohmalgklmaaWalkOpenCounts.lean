/- The walk of the statement OpenCounts. -/
import Derived.Test.YtolbohmalgklmaaFrameO
import Derived.Test.YtolbohmalgklmaaOpenRi
namespace Go.Proofs.Ytolbohmalgklmaa.openCounts
open Go.ChangeShapes Go.WideShapes Go.ChangeAt Go.RowKit Go.Lib
open Go.ChangeMaps (open_string shut_string)
set_option maxRecDepth 100000
set_option linter.unusedVariables false

set_option maxHeartbeats 16000000 in
theorem walk (w : World) (hT : AnyW w) (a : Option Addr) (len cap : Nat) (l : List Opn.E) (h : IsE w a len l) (hf : ∀ x ∈ l, eFits x) (h1 : len ≤ cap) (h2 : cap ≤ 9223372036854775807) (h3 : a = none → cap = 0)
    (s : ByteArray) (hs : s.size ≤ maxLen) (b : Option Addr) (bn bc : Nat) (ns : List (List UInt8)) (g : IsS w b bn ns) (gf : ∀ s ∈ ns, s.length ≤ 9223372036854775807) (g1 : bn ≤ bc) (g2 : bc ≤ 9223372036854775807) (g3 : b = none → bc = 0) :
    Calls Try.prog 5 #[.slice a len cap, .string s, .slice b bn bc] w fun e w' => e = .returned (.bool true) ∧ Below w.heap.size w w' := by
  obtain ⟨ex, rfl⟩ := str_bs s
  have HM := hid (much_any a len cap l b bn bc ns w h hf g gf h1 h2 g1 g2)
  have HE := hid fun (hl : len ≤ 3000) => elems_in h hf h1 h2 hl
  have HG := hid fun (hb : bn ≤ 100) => names_in g g1 g2 hb
  have K1 := hid fun W (E : ElemsIn a len cap l W) => pimplied_any a len cap l ex W E
  have K2 := hid fun W (E : ElemsIn a len cap l W) => rimplied_any a len cap l ex W E
  unfold maxLen at hs
  clear h hf h1 h2 h3 g gf g1 g2 g3 hT
  generalize bs ex = X at *
  go_enter Try.func5, Try.ntmps5
  go_wp2_with fail
  refine HM.out.mono ?_
  rintro e w2 ⟨rfl, c, rfl, hc⟩
  clear HM
  cases c with
  | true =>
    clear hc
    go_wp2
    go_ret
    exact ⟨rfl, Below.refl _ _⟩
  | false =>
    obtain ⟨hl, hbn⟩ := hc rfl
    have E := hid (HE.out hl)
    have N := hid (HG.out hbn)
    clear hc HE HG
    by_cases hm : X.size ≤ 3000
    · have d1 : decide ((3000 : Int) < (X.size : Int)) = false := decide_eq_false (by omega)
      have hgt : ¬ (3000 : Int) < (X.size : Int) := by omega
      have R1 := hid (Opn.impliedN_le l ex len)
      have R3 := hid (Opn.clearN_le l ns len)
      generalize Opn.impliedN l ex len = P at *
      go_wp2_with fail
      refine (K1.out w E.out).mono ?_
      rintro e w3 ⟨rfl, b3⟩
      have B3 := hid b3
      clear b3
      go_wp2_with fail
      refine (K2.out w3 (E.out.below B3.out)).mono ?_
      rintro e w4 ⟨rfl, b4⟩
      have B4 := hid (B3.out.trans (b4.mono B3.out.size))
      clear b4
      have e1 : ((P : Int) == (P : Int)) = true := by simp
      go_wp2_with fail
      refine (puntil_any a len cap l b bn bc ns w4 (E.out.below B4.out) (N.out.below B4.out)).mono ?_
      rintro e w5 ⟨rfl, b5⟩
      have B5 := hid (B4.out.trans (b5.mono B4.out.size))
      clear b5
      go_wp2_with fail
      refine (runtil_any a len cap l b bn bc ns w5 (E.out.below B5.out).isE E.out.few (N.out.below B5.out).isS N.out.few N.out.cap N.out.cap2).mono ?_
      rintro e w6 ⟨rfl, b6⟩
      have B6 := hid (B5.out.trans (b6.mono B5.out.size))
      clear b6
      generalize Opn.untilI l ns len = U at *
      have e2 : (U == U) = true := by simp
      go_wp2_with fail
      refine (known_any w6).mono ?_
      rintro e w7 ⟨rfl, b7⟩
      have B7 := hid (B6.out.trans (b7.mono B6.out.size))
      clear b7
      go_wp2_with fail
      refine (pclear_any a len cap l b bn bc ns w7 (E.out.below B7.out) (N.out.below B7.out)).mono ?_
      rintro e w8 ⟨rfl, b8⟩
      have B8 := hid (B7.out.trans (b8.mono B7.out.size))
      clear b8
      go_wp2_with fail
      refine (rclear_any a len cap l b bn bc ns w8 (E.out.below B8.out) (N.out.below B8.out)).mono ?_
      rintro e w9 ⟨rfl, b9⟩
      have B9 := hid (B8.out.trans (b9.mono B8.out.size))
      clear b9
      generalize Opn.clearN l ns len = C at *
      have e3 : ((C : Int) == (C : Int)) = true := by simp
      go_wp2_with fail
      refine (pitem_any a len cap l b bn bc ns w9 (E.out.below B9.out) (N.out.below B9.out)).mono ?_
      rintro e w10 ⟨rfl, b10⟩
      have B10 := hid (B9.out.trans (b10.mono B9.out.size))
      clear b10
      go_wp2_with fail
      refine (ritem_any a len cap l b bn bc ns w10 (E.out.below B10.out) (N.out.below B10.out)).mono ?_
      rintro e w11 ⟨rfl, b11⟩
      have B11 := hid (B10.out.trans (b11.mono B10.out.size))
      clear b11
      generalize Opn.itemI l ns len = I at *
      go_wp2
      go_ret
      exact ⟨ret_bool' (by simp), B11.out⟩
    · have d1 : decide ((3000 : Int) < (X.size : Int)) = true := decide_eq_true (by omega)
      have hgt : (3000 : Int) < (X.size : Int) := by omega
      go_wp2
      go_ret
      exact ⟨rfl, Below.refl _ _⟩
end Go.Proofs.Ytolbohmalgklmaa.openCounts
