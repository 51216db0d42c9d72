/- The chapter's example of layer 10, over the program's tree. -/
import Derived.Test.YthbklcpjbeelhaaDomK
import Derived.Test.YthbklcpjbeelhaaPrNodes
import Derived.Test.YthbklcpjbeelhaaAppZ
namespace Go.Proofs.Ythbklcpjbeelhaa
open Go.RowKit Go.Lib
set_option maxRecDepth 100000
set_option linter.unusedVariables false

namespace Dom
def nR : N := .mk 0 0 [] [] [] []
def nA : N := .mk 1 0 [97] [] [] []
def nB : N := .mk 1 0 [98] [] [] []
def nX : N := .mk 2 0 [] [] [120] []
def nXY : N := .mk 2 0 [] [] [120, 121] []
def K1 : T := [⟨nR, -1, []⟩, ⟨nA, -1, []⟩]
def K2 : T := [⟨nR, -1, []⟩, ⟨nA, -1, []⟩, ⟨nB, -1, []⟩]
def K3 : T := [⟨nR, -1, [1]⟩, ⟨nA, 0, []⟩, ⟨nB, -1, []⟩]
def K4 : T := [⟨nR, -1, [1]⟩, ⟨nA, 0, [2]⟩, ⟨nB, 1, []⟩]
def K5 : T := [⟨nR, -1, [1]⟩, ⟨nA, 0, [3, 2]⟩, ⟨nB, 1, []⟩, ⟨nX, 1, []⟩]
def K6 : T := [⟨nR, -1, [1]⟩, ⟨nA, 0, [3, 2]⟩, ⟨nB, 1, []⟩, ⟨nXY, 1, []⟩]
def K7 : T := [⟨nR, -1, [1, 3, 2]⟩, ⟨nA, 0, []⟩, ⟨nB, 0, []⟩, ⟨nXY, 0, []⟩]
end Dom
open Dom
theorem k1_is : makeT tNew nA = (K1, 1) := rfl
theorem k2_is : makeT K1 nB = (K2, 2) := rfl
theorem g1 : Dom.Good K1 := by have := good_make good_new nA; rwa [k1_is] at this
theorem g2 : Dom.Good K2 := by have := good_make g1 nB; rwa [k2_is] at this
theorem k3_is : putT K2 0 (-1) 1 = (K3, true) :=
  (put_new (t := K2) g2 (i := 1) (p := 0) (b := -1) (by decide) (by decide) ⟨by decide, .inl rfl⟩ (by decide) (by decide) (by decide) rfl rfl).trans rfl
theorem g3 : Dom.Good K3 := by have := good_put g2 0 (-1) 1; rwa [k3_is] at this
theorem k4_is : putT K3 1 (-1) 2 = (K4, true) :=
  (put_new (t := K3) g3 (i := 2) (p := 1) (b := -1) (by decide) (by decide) ⟨by decide, .inl rfl⟩ (by decide) (by decide) (by decide) rfl rfl).trans rfl
theorem g4 : Dom.Good K4 := by have := good_put g3 1 (-1) 2; rwa [k4_is] at this
theorem k4_no : putT K4 2 (-1) 1 = (K4, false) := by
  unfold putT
  rw [if_pos]
  exact .inr (.inr (.inr (.inr (.inl (.step (q := 1) rfl (.refl _))))))
theorem k5_is : writeT K4 1 2 [120] = (K5, true) := by
  have e : writeT K4 1 2 [120] = putT (K4 ++ [⟨nX, -1, []⟩]) 1 2 3 := by
    unfold writeT
    rw [if_neg (by
      rintro (q | q)
      · exact q (by decide)
      · exact absurd q (by decide)), if_neg (by decide)]
    rfl
  rw [e]
  have g : Dom.Good (K4 ++ [(⟨nX, -1, []⟩ : Dom.TN)]) := Dom.good_snoc g4 nX (by decide)
  exact (put_new (t := K4 ++ [⟨nX, -1, []⟩]) g (i := 3) (p := 1) (b := 2) (by decide) (by decide) ⟨by decide, .inr (by decide)⟩ (by decide) (by decide) (by decide) rfl rfl).trans rfl
theorem g5 : Dom.Good K5 := by have := good_write g4 1 2 [120]; rwa [k5_is] at this
theorem k6_is : writeT K5 1 2 [121] = (K6, true) := by
  unfold writeT
  rw [if_neg (by
    rintro (q | q)
    · exact q (by decide)
    · exact absurd q (by decide)), if_neg (by decide)]
  rfl
theorem g6 : Dom.Good K6 := by have := good_write g5 1 2 [121]; rwa [k6_is] at this
theorem k7_is : moveT K6 1 0 = (K7, true) := by
  unfold moveT
  rw [if_neg (by
    rintro (q | q | q | q)
    · exact q (by decide)
    · exact q (by decide)
    · exact absurd q (by decide)
    · exact Up_stop (t := K6) (x := 0) (o := 1) rfl (by decide) q)]
  rfl
theorem g7 : Dom.Good K7 := by have := good_move g6 1 0; rwa [k7_is] at this
theorem kids7 : kidsT K7 0 = [1, 3, 2] := rfl
theorem whole7 (e : Nat) : wholeF (e + 1) K7 0 = [nA, nXY, nB] := by
  have h : ∀ k, kidsAt K7 k = [] → wholeF e K7 k = [] := fun k hk => wholeF_none hk e
  show [withKids (bareP (nodeAt K7 1).nd) (wholeF e K7 1), withKids (bareP (nodeAt K7 3).nd) (wholeF e K7 3), withKids (bareP (nodeAt K7 2).nd) (wholeF e K7 2)] = _
  rw [h 1 rfl, h 3 rfl, h 2 rfl]
  rfl
theorem lines7 (e : Nat) : linesP (e + 1) [nA, nXY, nB] [] = [60, 97, 62, 10, 34, 120, 121, 34, 10, 60, 98, 62, 10] := by
  have h : ∀ F, linesP e [] F = [] := fun F => by cases e <;> rfl
  show lineP (linesP e) [] nA ++ (lineP (linesP e) [] nXY ++ (lineP (linesP e) [] nB ++ [])) = _
  have hA : lineP (linesP e) [] nA = [60, 97, 62, 10] := by
    show headP [] nA ++ attsP [] [] ++ linesP e [] [32, 32] = _
    rw [h]
    rfl
  have hB : lineP (linesP e) [] nB = [60, 98, 62, 10] := by
    show headP [] nB ++ attsP [] [] ++ linesP e [] [32, 32] = _
    rw [h]
    rfl
  rw [hA, hB]
  rfl
theorem fit_of {t : T} (h : t.length ≤ 4) (h0 : ∀ i, i < 4 → cost (nodeAt t i).nd ≤ 500000) : Fit t :=
  ⟨by omega, fun i => by
    by_cases hi : i < 4
    · exact h0 i hi
    · rw [nodeAt_none (by omega)]
      decide⟩
theorem fitK (t : T) (h : t = tNew ∨ t = K1 ∨ t = K2 ∨ t = K3 ∨ t = K4 ∨ t = K5 ∨ t = K6 ∨ t = K7) : Fit t := by
  rcases h with rfl | rfl | rfl | rfl | rfl | rfl | rfl | rfl <;> exact fit_of (by decide) (by decide)
/-- A tree at work, since w. -/
def KSt (w W : World) (R : Nat) (t : Dom.T) : Prop := ∃ S, DomK W w.heap.size R S t ∧ Turn (fun _ => False) S w W
theorem KSt.size {w W : World} {R : Nat} {t : Dom.T} (h : KSt w W R t) : w.heap.size ≤ W.heap.size := by
  obtain ⟨S, _, h2⟩ := h
  exact h2.size
theorem KSt.below {w W : World} {R : Nat} {t : Dom.T} (h : KSt w W R t) : Below w.heap.size w W := by
  obtain ⟨S, _, h2⟩ := h
  exact ⟨h2.os, h2.tape, h2.output, h2.size, fun k hk => h2.block k hk fun e => e⟩
theorem KSt.later {w W W' : World} {R : Nat} {t : Dom.T} (h : KSt w W R t) (hb : Below W.heap.size W W') : KSt w W' R t := by
  obtain ⟨S, h1, h2⟩ := h
  exact ⟨S, domK_all.below h1 hb, h2.trans (Turn.of_below hb)⟩
theorem k_put (w : World) (R : Nat) (t : Dom.T) (hG : Dom.Good t) (hF : Fit t) (p b i : Int) (t' : Dom.T) (x : Bool) (ht : Dom.putT t p b i = (t', x)) (W : World) (h : KSt w W R t) :
    Calls Try.prog 17 #[.pointer (some ⟨R, 0, none⟩), .int .i64 p, .int .i64 b, .int .i64 i] W fun e W' => e = .returned (.bool x) ∧ KSt w W' R t' := by
  obtain ⟨S, h1, h2⟩ := h
  refine (domK_all.put W w.heap.size R S t p b i trivial h1 hG hF h2.size).mono ?_
  rintro e W' ⟨he, S', g1, g2⟩
  rw [ht] at he g1
  exact ⟨he, S', g1, h2.trans g2⟩
theorem k_write (w : World) (R : Nat) (t : Dom.T) (hG : Dom.Good t) (hF : Fit t) (p b : Int) (s : List UInt8) (hs : s.length ≤ 4000000) (t' : Dom.T) (x : Bool) (ht : Dom.writeT t p b s = (t', x)) (W : World) (h : KSt w W R t) :
    Calls Try.prog 23 #[.pointer (some ⟨R, 0, none⟩), .int .i64 p, .int .i64 b, .string (bs s)] W fun e W' => e = .returned (.bool x) ∧ KSt w W' R t' := by
  obtain ⟨S, h1, h2⟩ := h
  refine (domK_all.write W w.heap.size R S t p b s trivial h1 hG hF h2.size hs).mono ?_
  rintro e W' ⟨he, S', g1, g2⟩
  rw [ht] at he g1
  exact ⟨he, S', g1, h2.trans g2⟩
theorem k_move (w : World) (R : Nat) (t : Dom.T) (hG : Dom.Good t) (hF : Fit t) (p b : Int) (t' : Dom.T) (x : Bool) (ht : Dom.moveT t p b = (t', x)) (W : World) (h : KSt w W R t) :
    Calls Try.prog 21 #[.pointer (some ⟨R, 0, none⟩), .int .i64 p, .int .i64 b] W fun e W' => e = .returned (.bool x) ∧ KSt w W' R t' := by
  obtain ⟨S, h1, h2⟩ := h
  refine (domK_all.move W w.heap.size R S t p b trivial h1 hG hF h2.size).mono ?_
  rintro e W' ⟨he, S', g1, g2⟩
  rw [ht] at he g1
  exact ⟨he, S', g1, h2.trans g2⟩
theorem k_make (w : World) (R : Nat) (t : Dom.T) (hG : Dom.Good t) (hF : Fit t) (y : Dom.N) (hy : y.atts = []) (hc : Dom.cost y ≤ 500000) (t' : Dom.T) (x : Int) (ht : Dom.makeT t y = (t', x)) (W : World) (h : KSt w W R t) :
    Calls Try.prog 12 #[.pointer (some ⟨R, 0, none⟩), .agg #[.int .u8 y.kind, .int .u8 y.space, .string (bs y.name), .slice none 0 0, .string (bs y.text), .slice none 0 0]] W fun e W' => e = .returned (.int .i64 x) ∧ KSt w W' R t' := by
  obtain ⟨S, h1, h2⟩ := h
  refine (domK_all.make W w.heap.size R S t y none 0 0 none 0 0 trivial h1 hG hF h2.size ⟨by rw [hy]; rfl, .inl rfl⟩ (fun _ => rfl) hc).mono ?_
  rintro e W' ⟨he, S', g1, g2⟩
  rw [ht] at he g1
  exact ⟨he, S', g1, h2.trans g2⟩
set_option maxHeartbeats 16000000 in
theorem pknown_any (w : World) : Calls Try.prog 8 #[] w fun e w' => e = .returned (.bool true) ∧ Below w.heap.size w w' := by
  have HN := hid (show Calls Try.prog 9 #[] w fun e W => ∃ R, e = .returned (.pointer (some ⟨R, 0, none⟩)) ∧ KSt w W R Dom.tNew from domK_all.new w w.heap.size trivial (Nat.le_refl _))
  have F0 := fitK Dom.tNew (.inl rfl)
  have F1 := fitK Dom.K1 (.inr (.inl rfl))
  have F2 := fitK Dom.K2 (.inr (.inr (.inl rfl)))
  have F3 := fitK Dom.K3 (.inr (.inr (.inr (.inl rfl))))
  have F4 := fitK Dom.K4 (.inr (.inr (.inr (.inr (.inl rfl)))))
  have F5 := fitK Dom.K5 (.inr (.inr (.inr (.inr (.inr (.inl rfl))))))
  have F6 := fitK Dom.K6 (.inr (.inr (.inr (.inr (.inr (.inr (.inl rfl)))))))
  have F7 := fitK Dom.K7 (.inr (.inr (.inr (.inr (.inr (.inr (.inr rfl)))))))
  have C1 := hid fun R W (h : KSt w W R Dom.tNew) => (show Calls Try.prog 12 #[.pointer (some ⟨R, 0, none⟩), .agg #[.int .u8 1, .int .u8 0, .string ⟨#[97]⟩, .slice none 0 0, .string ⟨#[]⟩, .slice none 0 0]] W fun e W' => e = .returned (.int .i64 1) ∧ KSt w W' R Dom.K1 from k_make w R _ Dom.good_new F0 Dom.nA rfl (by decide) _ _ k1_is W h)
  have C2 := hid fun R W (h : KSt w W R Dom.K1) => (show Calls Try.prog 12 #[.pointer (some ⟨R, 0, none⟩), .agg #[.int .u8 1, .int .u8 0, .string ⟨#[98]⟩, .slice none 0 0, .string ⟨#[]⟩, .slice none 0 0]] W fun e W' => e = .returned (.int .i64 2) ∧ KSt w W' R Dom.K2 from k_make w R _ g1 F1 Dom.nB rfl (by decide) _ _ k2_is W h)
  have C3 := hid fun R W (h : KSt w W R Dom.K2) => k_put w R _ g2 F2 0 (-1) 1 _ _ k3_is W h
  have C4 := hid fun R W (h : KSt w W R Dom.K3) => k_put w R _ g3 F3 1 (-1) 2 _ _ k4_is W h
  have C5 := hid fun R W (h : KSt w W R Dom.K4) => k_put w R _ g4 F4 2 (-1) 1 _ _ k4_no W h
  have C6 := hid fun R W (h : KSt w W R Dom.K4) => (show Calls Try.prog 23 #[.pointer (some ⟨R, 0, none⟩), .int .i64 1, .int .i64 2, .string ⟨#[120]⟩] W fun e W' => e = .returned (.bool true) ∧ KSt w W' R Dom.K5 from k_write w R _ g4 F4 1 2 [120] (by decide) _ _ k5_is W h)
  have C7 := hid fun R W (h : KSt w W R Dom.K5) => (show Calls Try.prog 23 #[.pointer (some ⟨R, 0, none⟩), .int .i64 1, .int .i64 2, .string ⟨#[121]⟩] W fun e W' => e = .returned (.bool true) ∧ KSt w W' R Dom.K6 from k_write w R _ g5 F5 1 2 [121] (by decide) _ _ k6_is W h)
  have C8 := hid fun R W (h : KSt w W R Dom.K6) => k_move w R _ g6 F6 1 0 _ _ k7_is W h
  have C9 := hid fun R W (h : KSt w W R Dom.K7) => (show Calls Try.prog 33 #[.pointer (some ⟨R, 0, none⟩), .int .i64 0] W fun e W' => (∃ b o c, e = .returned (.slice (some ⟨b, o, none⟩) 3 c) ∧ W'.cell? ⟨b, o, none⟩ = some (.int .i64 1) ∧ W'.cell? ⟨b, o + 1, none⟩ = some (.int .i64 3) ∧ W'.cell? ⟨b, o + 2, none⟩ = some (.int .i64 2)) ∧ KSt w W' R Dom.K7 from by
    obtain ⟨S, h1, h2⟩ := h
    refine (domK_all.kids W w.heap.size R S _ 0 trivial h1 g7 F7).mono ?_
    rintro e W' ⟨⟨a, c, he, hz, _⟩, hb⟩
    rw [kids7] at he hz
    obtain ⟨b, o, rfl, hat⟩ := hz.2.resolve_left (by decide)
    exact ⟨⟨b, o, c, he, hat 0 1 rfl, hat 1 3 rfl, hat 2 2 rfl⟩, KSt.later ⟨S, h1, h2⟩ hb⟩)
  obtain ⟨D, hD⟩ := domK_all.whole Dom.K7 g7 F7
  have C10 := hid fun R W (h : KSt w W R Dom.K7) => (show Calls Try.prog 32 #[.pointer (some ⟨R, 0, none⟩), .int .i64 0] W fun e W' => (∃ a c, e = .returned (.slice a 3 c) ∧ IsN (fun _ => True) (D + 1) W' a 3 [Dom.nA, Dom.nXY, Dom.nB]) ∧ Below W.heap.size W W' from by
    obtain ⟨S, h1, h2⟩ := h
    refine (hD (D + 1) (Nat.lt_succ_self D) W w.heap.size R S trivial h1).mono ?_
    rintro e W' ⟨⟨a, n, c, he, hI, _⟩, hb⟩
    rw [whole7] at hI
    have hN := hI.isN
    obtain rfl : n = 3 := hN.len.symm
    exact ⟨⟨a, c, he, hN.sub (fun _ _ => True.intro)⟩, hb⟩)
  have C11 := hid fun (a : Option Addr) (c : Nat) W (h : IsN (fun _ => True) (D + 1) W a 3 [Dom.nA, Dom.nXY, Dom.nB]) => (show Calls Try.prog 29 #[.slice a 3 c] W fun e W' => e = .returned (.string ⟨#[60, 97, 62, 10, 34, 120, 121, 34, 10, 60, 98, 62, 10]⟩) ∧ Below W.heap.size W W' from by
    have hk : Dom.sumW D [] = 0 := by cases D <;> rfl
    have q := pprint_any (D + 1) _ _ a 3 c W h (by
      intro x hx
      have hs : spL D [] := by
        cases D with
        | zero => exact True.intro
        | succ D => intro y hy; cases hy
      rcases List.mem_cons.1 hx with rfl | hx
      · exact ⟨by decide, hs⟩
      rcases List.mem_cons.1 hx with rfl | hx
      · exact ⟨by decide, hs⟩
      rcases List.mem_cons.1 hx with rfl | hx
      · exact ⟨by decide, hs⟩
      cases hx) (by
      show (1 + 0 / 8 + 1 / 8 + 0 + Dom.sumW D []) + ((1 + 2 / 8 + 0 / 8 + 0 + Dom.sumW D []) + ((1 + 0 / 8 + 1 / 8 + 0 + Dom.sumW D []) + 0)) ≤ 100000
      rw [hk]
      decide)
    rw [lines7] at q
    exact q)
  clear F0 F1 F2 F3 F4 F5 F6 F7 hD
  go_enter Try.func8, Try.ntmps8
  go_wp2_with fail
  refine (HN.out).mono ?_
  rintro e w1 ⟨R, rfl, h1⟩
  have H1 := hid h1
  clear h1
  go_wp2_with fail
  refine (C1.out R _ H1.out).mono ?_
  rintro e w2 ⟨rfl, h2⟩
  have H2 := hid h2
  clear h2
  go_wp2_with fail
  refine (C2.out R _ H2.out).mono ?_
  rintro e w3 ⟨rfl, h3⟩
  have H3 := hid h3
  clear h3
  go_wp2_with fail
  refine (C3.out R _ H3.out).mono ?_
  rintro e w4 ⟨rfl, h4⟩
  have H4 := hid h4
  clear h4
  go_wp2_with fail
  refine (C4.out R _ H4.out).mono ?_
  rintro e w5 ⟨rfl, h5⟩
  have H5 := hid h5
  clear h5
  go_wp2_with fail
  refine (C5.out R _ H5.out).mono ?_
  rintro e w6 ⟨rfl, h6⟩
  have H6 := hid h6
  clear h6
  go_wp2_with fail
  refine (C6.out R _ H6.out).mono ?_
  rintro e w7 ⟨rfl, h7⟩
  have H7 := hid h7
  clear h7
  go_wp2_with fail
  refine (C7.out R _ H7.out).mono ?_
  rintro e w8 ⟨rfl, h8⟩
  have H8 := hid h8
  clear h8
  go_wp2_with fail
  refine (C8.out R _ H8.out).mono ?_
  rintro e w9 ⟨rfl, h9⟩
  have H9 := hid h9
  clear h9
  go_wp2_with fail
  refine (C9.out R _ H9.out).mono ?_
  rintro e w10 ⟨⟨b, o, c, rfl, z1, z2, z3⟩, h10⟩
  have H10 := hid h10
  clear h10
  go_wp2_with fail
  refine (C10.out R _ H10.out).mono ?_
  rintro e w11 ⟨⟨a11, c11, rfl, hI⟩, b11⟩
  have H11 := hid hI
  have HB11 := hid b11
  clear hI b11
  go_wp2_with fail
  refine (C11.out a11 c11 _ H11.out).mono ?_
  rintro e w12 ⟨rfl, b12⟩
  have HB12 := hid (H10.out.below.trans ((HB11.out.trans (b12.mono HB11.out.size)).mono H10.out.size))
  clear b12
  go_wp2
  go_ret
  exact ⟨rfl, HB12.out⟩
end Go.Proofs.Ythbklcpjbeelhaa
