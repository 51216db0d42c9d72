/- The walk of the statement OpenScopes. -/
import Derived.Test.YtolbohmalgklmaaFrameO
import Derived.Test.YtolbohmalgklmaaOpenAp
namespace Go.Proofs.Ytolbohmalgklmaa.openScopes
open Go.ChangeShapes Go.WideShapes Go.ChangeAt Go.RowKit Go.Lib
open Go.ChangeMaps (open_string shut_string)
set_option maxRecDepth 100000
set_option linter.unusedVariables false

set_option maxHeartbeats 32000000 in
theorem walk (w : World) (hT : AnyW w) (a : Option Addr) (len cap : Nat) (l : List Opn.E) (h : IsE w a len l) (hf : ∀ x ∈ l, eFits x) (h1 : len ≤ cap) (h2 : cap ≤ 9223372036854775807) (h3 : a = none → cap = 0)
    (b : Option Addr) (bn bc : Nat) (ns : List (List UInt8)) (g : IsS w b bn ns) (gf : ∀ s ∈ ns, s.length ≤ 9223372036854775807) (g1 : bn ≤ bc) (g2 : bc ≤ 9223372036854775807) (g3 : b = none → bc = 0)
    (s : ByteArray) (hs : s.size ≤ maxLen) :
    Calls Try.prog 6 #[.slice a len cap, .slice b bn bc, .string s] w fun e w' => e = .returned (.bool true) ∧ Below w.heap.size w w' := by
  obtain ⟨mo, rfl⟩ := str_bs s
  have HM := hid (much_any a len cap l b bn bc ns w h hf g gf h1 h2 g1 g2)
  have HE := hid fun (hl : len ≤ 3000) => elems_in h hf h1 h2 hl
  have HG := hid fun (hb : bn ≤ 100) => names_in g g1 g2 hb
  have HG3 := hid g3
  have K1 := hid fun W (E : ElemsIn a len cap l W) => pimplied_any a len cap l mo W E
  have KI := hid fun (sc : Nat) (hsc : sc < 256) (d : Option Addr) (dn dc : Nat) (ms : List (List UInt8)) W (E : ElemsIn a len cap l W) (N : NamesIn d dn dc ms W) => pin_any a len cap l sc d dn dc ms W E N hsc
  unfold maxLen at hs
  clear h hf h1 h2 h3 g gf g1 g2 g3 hT
  obtain ⟨X, hX⟩ : ∃ X, bs mo = X := ⟨_, rfl⟩
  rw [hX] at hs K1 ⊢
  have HX := hid hX
  clear hX
  go_enter Try.func6, Try.ntmps6
  go_wp2_with fail
  refine HM.out.mono ?_
  rintro e w2 ⟨rfl, c, rfl, hc⟩
  clear HM
  cases c with
  | true =>
    clear hc
    go_wp2_with fail
    refine (known_any w).mono ?_
    rintro e w3 ⟨rfl, b3⟩
    have B3 := hid b3
    clear b3
    go_wp2
    go_ret
    exact ⟨rfl, B3.out⟩
  | false =>
    obtain ⟨hl, hbn⟩ := hc rfl
    have E := hid (HE.out hl)
    have N := hid (HG.out hbn)
    clear hc HE HG
    by_cases hm : X.size ≤ 3000
    · have d1 : decide ((3000 : Int) < (X.size : Int)) = false := decide_eq_false (by omega)
      have hgt : ¬ (3000 : Int) < (X.size : Int) := by omega
      go_wp2_with fail
      refine (known_any w).mono ?_
      rintro e w3 ⟨rfl, b3⟩
      have B3 := hid b3
      clear b3
      go_wp2_with fail
      refine (KI.out 0 (by omega) b bn bc ns w3 (E.out.below B3.out) (N.out.below B3.out)).mono ?_
      rintro e w4 ⟨rfl, b4⟩
      have B4 := hid (B3.out.trans (b4.mono B3.out.size))
      clear b4
      go_wp2_with fail
      refine (KI.out 2 (by omega) b bn bc ns w4 (E.out.below B4.out) (N.out.below B4.out)).mono ?_
      rintro e w5 ⟨rfl, b5⟩
      have B5 := hid (B4.out.trans (b5.mono B4.out.size))
      clear b5
      go_wp2_with fail
      refine (KI.out 1 (by omega) b bn bc ns w5 (E.out.below B5.out) (N.out.below B5.out)).mono ?_
      rintro e w6 ⟨rfl, b6⟩
      have B6 := hid (B5.out.trans (b6.mono B5.out.size))
      have hq2 := Opn.inB_all l 2 (.inr rfl) ns len
      have hq1 := Opn.inB_all l 1 (.inl rfl) ns len
      have hq3 := Opn.inB_more l 0 ns mo len
      have hq4 := Opn.inB_until l 0 ns len
      have hq5 := Opn.untilI_lt l ns len
      have hq6 := Opn.itemI_lt l ns len
      have hq7 := Opn.itemI_until l ns len
      have hq8 := Opn.impliedN_le l mo len
      have hq9 := Opn.clearN_le l ns len
      have N6 := hid (N.out.below B6.out)
      have HQ := hid (And.intro hq2 (And.intro hq1 (And.intro hq3 (And.intro hq4 (And.intro hq5 (And.intro hq6 (And.intro hq7 (And.intro hq8 hq9))))))))
      clear b6 hq2 hq1 hq3 hq4 hq5 hq6 hq7 hq8 hq9
      generalize Opn.inB l 0 ns len = qa at *
      generalize Opn.inB l 1 ns len = ql at *
      generalize Opn.inB l 2 ns len = qb at *
      go_wp2_with (at_builtin; refine append_texts rfl _ _ rfl w6.heap.size _ [] rfl (World.ownsRow_nil _ _ _ _) b bn bc ns rfl N6.out.isS HG3.out N6.out.cap (by simp; omega) (Nat.le_refl _) ?_)
      intro v1 w7 o1 g1
      have BB7 := hid ((Below.refl w6.heap.size w6).grown g1 (Nat.le_refl _) (own_ge (World.ownsRow_nil w6 w6.heap.size 9 1)))
      have HO7 := hid (o1.alloc (.cells #[.string X] 9))
      have HN7 := hid (isS_of_block (ls := [mo]) (n := 1) rfl (heap_alloc_new w7 (.cells #[.string X] 9)) (by rw [← HX.out]; rfl))
      have hnl : ns.length = bn := N.out.isS.1
      have hsz := BB7.out.size
      have BL7 := hid (BB7.out.alloc BB7.out.size (.cells #[.string X] 9))
      clear o1 g1 N6
      go_wp2_with (at_builtin; refine append_strs rfl _ _ rfl w6.heap.size _ ns rfl HO7.out w7.heap.size 0 1 1 [mo] rfl HN7.out (by omega) (by simp; omega) ?_)
      intro v2 w8 o2 g2
      have BB8 := hid (BL7.out.grown g2 (by simp; omega) (own_ge HO7.out))
      have B8 := hid (B6.out.trans (BB8.out.mono B6.out.size))
      have hdn : (ns ++ [mo]).length = bn + 1 := by simp; omega
      have o3 : w8.ownsRow w6.heap.size 9 1 v2 (ns ++ [mo]).length (strsL (ns ++ [mo])) := by rw [hdn]; exact o2
      obtain ⟨d, dc, rfl, hS, hc1, hc2⟩ := own_isS o3
      rw [hdn] at hS hc1
      have NB := hid (show NamesIn d (bn + 1) dc (ns ++ [mo]) w8 from ⟨hS, by omega, hc1, by unfold maxLen at hc2; omega⟩)
      rw [hdn]
      clear o2 o3 g2 hS hc1 hc2 HO7 HN7 BL7 BB7 BB8 hsz
      go_wp2_with fail
      refine (KI.out 0 (by omega) d (bn + 1) dc (ns ++ [mo]) w8 (E.out.below B8.out) NB.out).mono ?_
      rintro e w9 ⟨rfl, b9⟩
      have B9 := hid (B8.out.trans (b9.mono B8.out.size))
      clear b9 NB
      generalize Opn.inB l 0 (ns ++ [mo]) len = qw at *
      go_wp2_with fail
      refine (puntil_any a len cap l b bn bc ns w9 (E.out.below B9.out) (N.out.below B9.out)).mono ?_
      rintro e w10 ⟨rfl, b10⟩
      have B10 := hid (B9.out.trans (b10.mono B9.out.size))
      clear b10
      have HP := hid fun W (hb : Below w.heap.size w W) => K1.out W (E.out.below hb)
      have HC := hid fun W (hb : Below w.heap.size w W) => pclear_any a len cap l b bn bc ns W (E.out.below hb) (N.out.below hb)
      have HI := hid fun W (hb : Below w.heap.size w W) => pitem_any a len cap l b bn bc ns W (E.out.below hb) (N.out.below hb)
      generalize Opn.untilI l ns len = U at *
      generalize Opn.itemI l ns len = I at *
      generalize Opn.impliedN l mo len = P at *
      generalize Opn.clearN l ns len = C at *
      obtain ⟨q2, q1, q3, q4, ⟨u1, u2⟩, ⟨i1, i2⟩, q7, p1, c1⟩ := HQ.out
      have tail : (qa = false ∧ qb = false ∧ ql = false) ∨ (qa = true ∧ qw = true ∧ 0 ≤ U) := by
        cases qa with
        | true => exact .inr ⟨rfl, q3 rfl, q4 rfl⟩
        | false =>
          refine .inl ⟨rfl, ?_, ?_⟩
          · cases qb with
            | false => rfl
            | true => exact absurd (q2 rfl) (by decide)
          · cases ql with
            | false => rfl
            | true => exact absurd (q1 rfl) (by decide)
      have eP : decide ((P : Int) ≤ (len : Int)) = true := decide_eq_true (by omega)
      have eP0 : decide ((0 : Int) ≤ (P : Int)) = true := decide_eq_true (by omega)
      have eC : decide ((C : Int) ≤ (len : Int)) = true := decide_eq_true (by omega)
      have eC0 : decide ((0 : Int) ≤ (C : Int)) = true := decide_eq_true (by omega)
      have eU : decide (U < (len : Int)) = true := decide_eq_true u1
      have eI : decide (I < (len : Int)) = true := decide_eq_true i1
      have eM : decide (I ≤ max U (-1)) = true := decide_eq_true (by omega)
      clear HQ q2 q1 q3 q4 q7 K1 KI
      have FIN : Hid (Below w.heap.size w w10) := B10
      rcases tail with ⟨rfl, rfl, rfl⟩ | ⟨rfl, rfl, hU⟩
      · go_wp2_with fail
        refine (HP.out w10 FIN.out).mono ?_
        rintro e w11 ⟨rfl, b11⟩
        have B11 := hid (FIN.out.trans (b11.mono FIN.out.size))
        clear b11
        go_wp2_with fail
        refine (HC.out w11 B11.out).mono ?_
        rintro e w12 ⟨rfl, b12⟩
        have B12 := hid (B11.out.trans (b12.mono B11.out.size))
        clear b12
        go_wp2_with fail
        refine (HI.out w12 B12.out).mono ?_
        rintro e w13 ⟨rfl, b13⟩
        have B13 := hid (B12.out.trans (b13.mono B12.out.size))
        clear b13
        go_wp2
        go_ret
        exact ⟨ret_bool' (by simp_all), B13.out⟩
      · have eU0 : decide (U < (0 : Int)) = false := decide_eq_false (by omega)
        have hU0 : ¬ U < 0 := by omega
        cases qb <;> cases ql
        all_goals
          go_wp2_with fail
          refine (HP.out w10 FIN.out).mono ?_
          rintro e w11 ⟨rfl, b11⟩
          have B11 := hid (FIN.out.trans (b11.mono FIN.out.size))
          clear b11
          go_wp2_with fail
          refine (HC.out w11 B11.out).mono ?_
          rintro e w12 ⟨rfl, b12⟩
          have B12 := hid (B11.out.trans (b12.mono B11.out.size))
          clear b12
          go_wp2_with fail
          refine (HI.out w12 B12.out).mono ?_
          rintro e w13 ⟨rfl, b13⟩
          have B13 := hid (B12.out.trans (b13.mono B12.out.size))
          clear b13
          go_wp2
          go_ret
          exact ⟨ret_bool' (by simp_all), B13.out⟩
    · have d1 : decide ((3000 : Int) < (X.size : Int)) = true := decide_eq_true (by omega)
      have hgt : (3000 : Int) < (X.size : Int) := by omega
      go_wp2_with fail
      refine (known_any w).mono ?_
      rintro e w3 ⟨rfl, b3⟩
      have B3 := hid b3
      clear b3
      go_wp2
      go_ret
      exact ⟨rfl, B3.out⟩
end Go.Proofs.Ytolbohmalgklmaa.openScopes
