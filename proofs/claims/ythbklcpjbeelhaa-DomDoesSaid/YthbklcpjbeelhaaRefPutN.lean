/- Walks over the reference of layer 10: Put, where it says no. Written by tools/gen_refput.py. -/
import Derived.Test.YthbklcpjbeelhaaRefCut
namespace Go.Proofs.Ythbklcpjbeelhaa
open Go.RowKit Go.Lib
set_option maxRecDepth 100000
set_option linter.unusedVariables false

open Classical in
set_option maxHeartbeats 4000000 in
theorem rput_n1 (w : World) (base R : Nat) (S : Nat → Prop) (t : Dom.T) (p b i : Int) (h : TreeX w base R S t) (hG : Dom.Good t) (hf : t.length ≤ 1000000) (h1 : ¬ Dom.holds t p) :
    Calls Try.prog 18 #[.pointer (some ⟨R, 0, none⟩), .int .i64 p, .int .i64 b, .int .i64 i] w fun e w' => e = .returned (.bool false) ∧ w' = w := by
  obtain ⟨v, rs, h⟩ := h
  obtain ⟨g, cap, rfl, hnc, hR⟩ := h.read hG.some hf
  have HA := rholds_any w R g cap t p hR
  have HB := there_any w R g cap t i hR
  rw [decide_eq_false h1] at HA
  obtain ⟨B, hB⟩ : ∃ B, decide (Dom.there t i) = B := ⟨_, rfl⟩
  rw [hB] at HB
  clear hB
  have HA := hid HA
  have HB := hid HB
  clear hR h hG h1
  go_enter Try.func18, Try.ntmps18
  go_wp2_with fail
  refine (HA.out).mono ?_
  rintro e w1 ⟨rfl, rfl⟩
  go_wp2_with fail
  refine (HB.out).mono ?_
  rintro e w1 ⟨rfl, rfl⟩
  go_wp2
  go_ret
  exact ⟨rfl, rfl⟩
open Classical in
set_option maxHeartbeats 4000000 in
theorem rput_n2 (w : World) (base R : Nat) (S : Nat → Prop) (t : Dom.T) (p b i : Int) (h : TreeX w base R S t) (hG : Dom.Good t) (hf : t.length ≤ 1000000) (h1 : Dom.holds t p) (h2 : ¬ Dom.there t i) :
    Calls Try.prog 18 #[.pointer (some ⟨R, 0, none⟩), .int .i64 p, .int .i64 b, .int .i64 i] w fun e w' => e = .returned (.bool false) ∧ w' = w := by
  obtain ⟨v, rs, h⟩ := h
  obtain ⟨g, cap, rfl, hnc, hR⟩ := h.read hG.some hf
  have HA := rholds_any w R g cap t p hR
  have HB := there_any w R g cap t i hR
  rw [decide_eq_true h1] at HA
  rw [decide_eq_false h2] at HB
  have HA := hid HA
  have HB := hid HB
  clear hR h hG h1 h2
  go_enter Try.func18, Try.ntmps18
  go_wp2_with fail
  refine (HA.out).mono ?_
  rintro e w1 ⟨rfl, rfl⟩
  go_wp2_with fail
  refine (HB.out).mono ?_
  rintro e w1 ⟨rfl, rfl⟩
  go_wp2
  go_ret
  exact ⟨rfl, rfl⟩
open Classical in
set_option maxHeartbeats 4000000 in
theorem rput_n3 (w : World) (base R : Nat) (S : Nat → Prop) (t : Dom.T) (p b i : Int) (h : TreeX w base R S t) (hG : Dom.Good t) (hf : t.length ≤ 1000000) (h1 : Dom.holds t p) (h2 : Dom.there t i) (h3 : i = 0) :
    Calls Try.prog 18 #[.pointer (some ⟨R, 0, none⟩), .int .i64 p, .int .i64 b, .int .i64 i] w fun e w' => e = .returned (.bool false) ∧ w' = w := by
  obtain ⟨v, rs, h⟩ := h
  obtain ⟨g, cap, rfl, hnc, hR⟩ := h.read hG.some hf
  have HA := rholds_any w R g cap t p hR
  have HB := there_any w R g cap t i hR
  rw [decide_eq_true h1] at HA
  rw [decide_eq_true h2] at HB
  subst h3
  have HA := hid HA
  have HB := hid HB
  clear hR h hG h1 h2
  go_enter Try.func18, Try.ntmps18
  go_wp2_with fail
  refine (HA.out).mono ?_
  rintro e w1 ⟨rfl, rfl⟩
  go_wp2_with fail
  refine (HB.out).mono ?_
  rintro e w1 ⟨rfl, rfl⟩
  go_wp2
  go_ret
  exact ⟨rfl, rfl⟩
open Classical in
set_option maxHeartbeats 4000000 in
theorem rput_n4 (w : World) (base R : Nat) (S : Nat → Prop) (t : Dom.T) (p b i : Int) (h : TreeX w base R S t) (hG : Dom.Good t) (hf : t.length ≤ 1000000) (h1 : Dom.holds t p) (h2 : Dom.there t i) (h3 : i ≠ 0) (h4 : b = i) :
    Calls Try.prog 18 #[.pointer (some ⟨R, 0, none⟩), .int .i64 p, .int .i64 b, .int .i64 i] w fun e w' => e = .returned (.bool false) ∧ w' = w := by
  obtain ⟨v, rs, h⟩ := h
  obtain ⟨g, cap, rfl, hnc, hR⟩ := h.read hG.some hf
  have HA := rholds_any w R g cap t p hR
  have HB := there_any w R g cap t i hR
  rw [decide_eq_true h1] at HA
  rw [decide_eq_true h2] at HB
  subst h4
  have e3 : (b == 0) = false := by simp; exact h3
  have HA := hid HA
  have HB := hid HB
  clear hR h hG h1 h2
  go_enter Try.func18, Try.ntmps18
  go_wp2_with fail
  refine (HA.out).mono ?_
  rintro e w1 ⟨rfl, rfl⟩
  go_wp2_with fail
  refine (HB.out).mono ?_
  rintro e w1 ⟨rfl, rfl⟩
  go_wp2
  go_ret
  exact ⟨rfl, rfl⟩
open Classical in
set_option maxHeartbeats 4000000 in
theorem rput_n5 (w : World) (base R : Nat) (S : Nat → Prop) (t : Dom.T) (p b i : Int) (h : TreeX w base R S t) (hG : Dom.Good t) (hf : t.length ≤ 1000000) (h1 : Dom.holds t p) (h2 : Dom.there t i) (h3 : i ≠ 0) (h4 : b ≠ i) (h5 : Dom.Up t p.toNat i.toNat) :
    Calls Try.prog 18 #[.pointer (some ⟨R, 0, none⟩), .int .i64 p, .int .i64 b, .int .i64 i] w fun e w' => e = .returned (.bool false) ∧ w' = w := by
  obtain ⟨v, rs, h⟩ := h
  obtain ⟨g, cap, rfl, hnc, hR⟩ := h.read hG.some hf
  have HA := rholds_any w R g cap t p hR
  have HB := there_any w R g cap t i hR
  have i1 := h2.1
  have i2 := h2.2
  have p1 := h1.1.1
  have p2 := h1.1.2
  have HC := rwithin_any w R g cap t p.toNat i.toNat hR hG (by omega) (by omega)
  rw [show ((p.toNat : Nat) : Int) = p by omega, show ((i.toNat : Nat) : Int) = i by omega] at HC
  rw [decide_eq_true h1] at HA
  rw [decide_eq_true h2] at HB
  have e3 : (i == 0) = false := by simp; exact h3
  have e4 : (b == i) = false := by simp; exact h4
  have HA := hid HA
  have HB := hid HB
  rw [decide_eq_true h5] at HC
  have HC := hid HC
  clear hR h hG h1 h2 h3 h4 h5
  go_enter Try.func18, Try.ntmps18
  go_wp2_with fail
  refine (HA.out).mono ?_
  rintro e w1 ⟨rfl, rfl⟩
  go_wp2_with fail
  refine (HB.out).mono ?_
  rintro e w1 ⟨rfl, rfl⟩
  go_wp2_with fail
  refine (HC.out).mono ?_
  rintro e w1 ⟨rfl, rfl⟩
  go_wp2
  go_ret
  exact ⟨rfl, rfl⟩
open Classical in
set_option maxHeartbeats 4000000 in
theorem rput_n6 (w : World) (base R : Nat) (S : Nat → Prop) (t : Dom.T) (p b i : Int) (h : TreeX w base R S t) (hG : Dom.Good t) (hf : t.length ≤ 1000000) (h1 : Dom.holds t p) (h2 : Dom.there t i) (h3 : i ≠ 0) (h4 : b ≠ i) (h5 : ¬ Dom.Up t p.toNat i.toNat) (h6 : Dom.placeL (Dom.kidsAt t p.toNat) b < 0) :
    Calls Try.prog 18 #[.pointer (some ⟨R, 0, none⟩), .int .i64 p, .int .i64 b, .int .i64 i] w fun e w' => e = .returned (.bool false) ∧ w' = w := by
  obtain ⟨v, rs, h⟩ := h
  obtain ⟨g, cap, rfl, hnc, hR⟩ := h.read hG.some hf
  have HA := rholds_any w R g cap t p hR
  have HB := there_any w R g cap t i hR
  have i1 := h2.1
  have i2 := h2.2
  have p1 := h1.1.1
  have p2 := h1.1.2
  have HC := rwithin_any w R g cap t p.toNat i.toNat hR hG (by omega) (by omega)
  rw [show ((p.toNat : Nat) : Int) = p by omega, show ((i.toNat : Nat) : Int) = i by omega] at HC
  rw [decide_eq_true h1] at HA
  rw [decide_eq_true h2] at HB
  have e3 : (i == 0) = false := by simp; exact h3
  have e4 : (b == i) = false := by simp; exact h4
  have HA := hid HA
  have HB := hid HB
  have HD := rplace_any w R g cap t p.toNat b hR (by omega) (by have := good_few hG p.toNat; omega)
  rw [show ((p.toNat : Nat) : Int) = p by omega] at HD
  rw [decide_eq_false h5] at HC
  have HC := hid HC
  obtain ⟨q, hq⟩ : ∃ q, Dom.placeL (Dom.kidsAt t p.toNat) b = q := ⟨_, rfl⟩
  rw [hq] at HD h6
  have e6 : decide (q < 0) = true := decide_eq_true h6
  have HD := hid HD
  clear hR h hG h1 h2 h3 h4 h5 hq
  go_enter Try.func18, Try.ntmps18
  go_wp2_with fail
  refine (HA.out).mono ?_
  rintro e w1 ⟨rfl, rfl⟩
  go_wp2_with fail
  refine (HB.out).mono ?_
  rintro e w1 ⟨rfl, rfl⟩
  go_wp2_with fail
  refine (HC.out).mono ?_
  rintro e w1 ⟨rfl, rfl⟩
  go_wp2_with fail
  refine (HD.out).mono ?_
  rintro e w1 ⟨rfl, rfl⟩
  go_wp2
  go_ret
  exact ⟨rfl, rfl⟩
end Go.Proofs.Ythbklcpjbeelhaa
