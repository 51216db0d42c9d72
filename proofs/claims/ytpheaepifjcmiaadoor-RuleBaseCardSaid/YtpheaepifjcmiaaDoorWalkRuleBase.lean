/- The walk of the statement RuleBase. -/
import Derived.Test.YtpheaepifjcmiaaDoorKnownR
import Derived.Test.YtpheaepifjcmiaaDoorFrameU
import Derived.Test.YtpheaepifjcmiaaDoorPolArg
namespace Go.Proofs.YtpheaepifjcmiaaDoor.ruleBase
open Go.ChangeShapes Go.WideShapes Go.ChangeAt Go.RowKit Go.Lib
open Go.ChangeMaps (open_string shut_string)
set_option maxRecDepth 100000
set_option linter.unusedVariables false

def BaseG (w : World) (e : Ending) (w' : World) : Prop := ∃ q, e = .returned (.agg #[.slice (some ⟨q, 0, none⟩) 26 26, .slice (some ⟨q + 1, 0, none⟩) 9 9, .slice (some ⟨q + 1 + 1, 0, none⟩) 3 3]) ∧ PolW w' (some ⟨q, 0, none⟩) 26 26 bEl (some ⟨q + 1, 0, none⟩) 9 9 bAt (some ⟨q + 1 + 1, 0, none⟩) 3 3 bSc ∧ Below w.heap.size w w'
theorem baseG_any (w : World) : Calls Tryd.prog 13 #[] w (BaseG w) := (base_any w).mono fun e w' h => ⟨w.heap.size + 1, h.1, h.pol, h.2.2.2.2⟩
theorem rbaseG_any (w : World) : Calls Tryd.prog 14 #[] w (BaseG w) := (rbase_any w).mono fun e w' h => ⟨w.heap.size + 1, h.1, h.pol, h.2.2.2.2⟩
/-- A block of so many cells. -/
def Room (W : World) (g n : Nat) (t : TypeId) : Prop := ∃ cs, BlkW W g cs t ∧ cs.size = n
theorem Room.set_ {W : World} {g n : Nat} {t : TypeId} (h : Room W g n t) (i : Nat) (u : Value) : Room (W.setCell ⟨g, i, none⟩ u) g n t := by
  obtain ⟨cs, h1, h2⟩ := h
  exact ⟨_, h1.set_ i u, by simpa using h2⟩
theorem Room.far {W : World} {g n : Nat} {t : TypeId} (h : Room W g n t) (p : Addr) (u : Value) (hp : p.block ≠ g) : Room (W.setCell p u) g n t := by
  obtain ⟨cs, h1, h2⟩ := h
  exact ⟨_, h1.far p u hp, h2⟩
theorem Room.below {W W' : World} {g n B : Nat} {t : TypeId} (h : Room W g n t) (hb : Below B W W') (hB : g < B) : Room W' g n t := by
  obtain ⟨cs, h1, h2⟩ := h
  exact ⟨cs, h1.below hb hB, h2⟩
theorem Room.cell {W : World} {g n i : Nat} {t : TypeId} (h : Room W g n t) (hi : i < n) : (∃ u, W.cell? ⟨g, i, none⟩ = some u) ∧ W.frozen? ⟨g, i, none⟩ = false := by
  obtain ⟨cs, h1, h2⟩ := h
  exact ⟨⟨cs[i]'(by omega), by rw [h1.cell, Array.getElem?_eq_getElem (by omega)]⟩, h1.free i⟩
/-- The policy at T, its three rows behind g. -/
def SpoilW (w W : World) (T g : Nat) : Prop := Below w.heap.size w W ∧ BlkW W T #[.slice (some ⟨g, 0, none⟩) 26 26, .slice (some ⟨g + 1, 0, none⟩) 9 9, .slice (some ⟨g + 1 + 1, 0, none⟩) 3 3] 25 ∧ Room W g 26 9 ∧ Room W (g + 1) 18 36 ∧ Room W (g + 1 + 1) 3 9
theorem SpoilW.set_ {w W : World} {T g : Nat} (h : SpoilW w W T g) (hT : g + 1 + 1 < T) (hg : w.heap.size ≤ g) (j i : Nat) (hj : j = g ∨ j = g + 1 ∨ j = g + 1 + 1) (u : Value) : SpoilW w (W.setCell ⟨j, i, none⟩ u) T g := by
  obtain ⟨h1, h2, h3, h4, h5⟩ := h
  refine ⟨h1.setCell (by show w.heap.size ≤ j; omega) u, h2.far _ _ (by show j ≠ T; omega), ?_, ?_, ?_⟩
  · by_cases e : j = g
    · subst e; exact h3.set_ i u
    · exact h3.far _ _ e
  · by_cases e : j = g + 1
    · subst e; exact h4.set_ i u
    · exact h4.far _ _ e
  · by_cases e : j = g + 1 + 1
    · subst e; exact h5.set_ i u
    · exact h5.far _ _ e
theorem SpoilW.pol {w W : World} {T g : Nat} (h : SpoilW w W T g) : W.cell? ⟨T, 0, none⟩ = some (.slice (some ⟨g, 0, none⟩) 26 26) ∧ W.cell? ⟨T, 1, none⟩ = some (.slice (some ⟨g + 1, 0, none⟩) 9 9) ∧ W.cell? ⟨T, 2, none⟩ = some (.slice (some ⟨g + 1 + 1, 0, none⟩) 3 3) :=
  ⟨h.2.1.cell 0, h.2.1.cell 1, h.2.1.cell 2⟩
set_option maxHeartbeats 4000000 in
theorem walk (w : World) (hT : UrlW w) : Calls Tryd.prog 4 #[] w fun e w' => e = .returned (.bool true) ∧ Below w.heap.size w w' := by
  have HT := hid hT
  clear hT
  go_enter Tryd.func4, Tryd.ntmps4
  go_wp2_with fail
  refine (base_any _).mono ?_
  rintro e w1 hB
  have hPol := hB.pol
  obtain ⟨rfl, r1, r2, r3, b1⟩ := hB
  obtain ⟨g, hg⟩ : ∃ g, w.heap.size + 1 = g := ⟨_, rfl⟩
  rw [hg] at hPol r1 r2 r3 ⊢
  have hgw : w.heap.size ≤ g := by omega
  have hT1 : g + 1 + 1 < w1.heap.size := r3.lt
  have s0 := hid (show SpoilW w (w1.alloc (.cells #[.slice (some ⟨g, 0, none⟩) 26 26, .slice (some ⟨g + 1, 0, none⟩) 9 9, .slice (some ⟨g + 1 + 1, 0, none⟩) 3 3] 25)) w1.heap.size g from
    ⟨b1.alloc b1.size _, BlkW.new w1 _ _, ⟨_, r1.alloc _, rfl⟩, ⟨_, r2.alloc _, rfl⟩, ⟨_, r3.alloc _, rfl⟩⟩)
  have hPol := hid (hPol.below ((Below.refl _ _).alloc (Nat.le_refl _) (.cells #[.slice (some ⟨g, 0, none⟩) 26 26, .slice (some ⟨g + 1, 0, none⟩) 9 9, .slice (some ⟨g + 1 + 1, 0, none⟩) 3 3] 25)))
  clear b1 hg r1 r2 r3
  go_wp2_with fail
  obtain ⟨W, hW⟩ : ∃ W, w1.alloc (.cells #[.slice (some ⟨g, 0, none⟩) 26 26, .slice (some ⟨g + 1, 0, none⟩) 9 9, .slice (some ⟨g + 1 + 1, 0, none⟩) 3 3] 25) = W := ⟨_, rfl⟩
  obtain ⟨T, hTT⟩ : ∃ T, w1.heap.size = T := ⟨_, rfl⟩
  rw [hW] at s0 hPol ⊢
  rw [hTT] at s0 hT1 ⊢
  have hTlt : T < W.heap.size := s0.out.2.1.lt
  have h0 : ∀ V, Below W.heap.size W V → V.cell? ⟨T, 0, none⟩ = some (.slice (some ⟨g, 0, none⟩) 26 26) := fun V hV => (s0.out.2.1.below hV hTlt).cell 0
  have h1 : ∀ V, Below W.heap.size W V → V.cell? ⟨T, 1, none⟩ = some (.slice (some ⟨g + 1, 0, none⟩) 9 9) := fun V hV => (s0.out.2.1.below hV hTlt).cell 1
  have h2 : ∀ V, Below W.heap.size W V → V.cell? ⟨T, 2, none⟩ = some (.slice (some ⟨g + 1 + 1, 0, none⟩) 3 3) := fun V hV => (s0.out.2.1.below hV hTlt).cell 2
  have HTT := hid hTlt
  clear hW hTT hTlt
  have e0 : Below W.heap.size W W := Below.refl _ _
  have HR := hid rbaseG_any
  have HS := hid (fun V (q : Nat) (hV : Below W.heap.size W V) (hq : PolW V (some ⟨q, 0, none⟩) 26 26 bEl (some ⟨q + 1, 0, none⟩) 9 9 bAt (some ⟨q + 1 + 1, 0, none⟩) 3 3 bSc) => (sameP_any _ 26 26 bEl _ 9 9 bAt _ 3 3 bSc _ 26 26 bEl _ 9 9 bAt _ 3 3 bSc V (hPol.out.below hV).three hq.three).mono
    fun e w' (hh : e = .returned (.bool (decide (bAt = bAt) && (decide (bEl = bEl) && decide (bSc = bSc)))) ∧ Below V.heap.size V w') => (⟨hh.1.trans (by rw [decide_eq_true (rfl : bAt = bAt), decide_eq_true (rfl : bEl = bEl), decide_eq_true (rfl : bSc = bSc)]; rfl), hh.2⟩ : e = .returned (.bool true) ∧ Below V.heap.size V w'))
  go_region_held3 (fun w' => w'.cell? ⟨T, 0, none⟩ = some (.slice (some ⟨g, 0, none⟩) 26 26) ∧ w'.cell? ⟨T, 1, none⟩ = some (.slice (some ⟨g + 1, 0, none⟩) 9 9) ∧ w'.cell? ⟨T, 2, none⟩ = some (.slice (some ⟨g + 1 + 1, 0, none⟩) 3 3) ∧ Below W.heap.size W w')
    (first | exact ⟨h0 _ e2, h1 _ e2, h2 _ e2, e2⟩ | exact ⟨h0 _ e1, h1 _ e1, h2 _ e1, e1⟩ | exact ⟨h0 _ e0.drew, h1 _ e0.drew, h2 _ e0.drew, e0.drew⟩ | exact ⟨h0 _ e0, h1 _ e0, h2 _ e0, e0⟩)
    (first
      | (go_at_call 14; (with_reducible refine (HR.out _).mono ?_); rintro e v1 ⟨q, rfl, hq, j1⟩; have hq := hid hq; have e1 := e0.drew.trans (j1.mono e0.drew.size))
      | (go_at_call 12; (with_reducible refine (HS.out _ q e1 hq.out).mono ?_); rintro e v2 ⟨rfl, j2⟩; have e2 := e1.trans (j2.mono e1.size)))
  have s2 : SpoilW w v2 T g := ⟨s0.out.1.trans (e2.mono s0.out.1.size), s0.out.2.1.below e2 s0.out.2.1.lt, s0.out.2.2.1.below e2 (by have := HTT.out; omega), s0.out.2.2.2.1.below e2 (by have := HTT.out; omega), s0.out.2.2.2.2.below e2 (by have := HTT.out; omega)⟩
  have s2 := hid s2
  clear e0 e1 e2 h0 h1 h2 j1 j2
  go_wp2
  go_loopg [3] 26 (fun g' iv wr => ∃ k : Nat, k + g' = 26 ∧ iv = .int .i64 k ∧ SpoilW w wr T g)
  case atStart => exact ⟨0, rfl, rfl, s2.out⟩
  case round =>
    obtain ⟨k, hk, rfl, hs⟩ := hrel
    obtain ⟨p0, p1, p2⟩ := hs.pol
    by_cases hlt : k < 26
    · have d1 : decide ((k : Int) < 26) = true := decide_eq_true (by omega)
      have hltI : (k : Int) < 26 := by omega
      obtain ⟨⟨u, hu⟩, hf⟩ := hs.2.2.1.cell (i := k) (by omega)
      have hs2 := hid (hs.set_ hT1 hgw (g) (k) (by omega) (.string ⟨#[115, 112, 111, 105, 108, 116]⟩))
      clear hs
      go_wp2
      go_roundg (26 - (k + 1))
      case measure => omega
      case rel => exact ⟨k + 1, by omega, by go_num, hs2.out⟩
    · have d1 : decide ((k : Int) < 26) = false := decide_eq_false (by omega)
      have hltI : ¬ (k : Int) < 26 := by omega
      have s3 := hid hs
      clear hs
      go_wp2
      go_loopg [4] 9 (fun g' iv wr => ∃ k : Nat, k + g' = 9 ∧ iv = .int .i64 k ∧ SpoilW w wr T g)
      case atStart => exact ⟨0, rfl, rfl, s3.out⟩
      case round =>
        obtain ⟨k, hk, rfl, hs⟩ := hrel
        obtain ⟨p0, p1, p2⟩ := hs.pol
        by_cases hlt : k < 9
        · have d1 : decide ((k : Int) < 9) = true := decide_eq_true (by omega)
          have hltI : (k : Int) < 9 := by omega
          obtain ⟨⟨u, hu⟩, hf⟩ := hs.2.2.2.1.cell (i := k * 2 + 1) (by omega)
          have hs2 := hid (hs.set_ hT1 hgw (g + 1) (k * 2 + 1) (by omega) (.string ⟨#[115, 112, 111, 105, 108, 116]⟩))
          clear hs
          go_wp2
          go_roundg (9 - (k + 1))
          case measure => omega
          case rel => exact ⟨k + 1, by omega, by go_num, hs2.out⟩
        · have d1 : decide ((k : Int) < 9) = false := decide_eq_false (by omega)
          have hltI : ¬ (k : Int) < 9 := by omega
          have s4 := hid hs
          clear hs
          go_wp2
          go_loopg [5] 3 (fun g' iv wr => ∃ k : Nat, k + g' = 3 ∧ iv = .int .i64 k ∧ SpoilW w wr T g)
          case atStart => exact ⟨0, rfl, rfl, s4.out⟩
          case round =>
            obtain ⟨k, hk, rfl, hs⟩ := hrel
            obtain ⟨p0, p1, p2⟩ := hs.pol
            by_cases hlt : k < 3
            · have d1 : decide ((k : Int) < 3) = true := decide_eq_true (by omega)
              have hltI : (k : Int) < 3 := by omega
              obtain ⟨⟨u, hu⟩, hf⟩ := hs.2.2.2.2.cell (i := k) (by omega)
              have hs2 := hid (hs.set_ hT1 hgw (g + 1 + 1) (k) (by omega) (.string ⟨#[115, 112, 111, 105, 108, 116]⟩))
              clear hs
              go_wp2
              go_roundg (3 - (k + 1))
              case measure => omega
              case rel => exact ⟨k + 1, by omega, by go_num, hs2.out⟩
            · have d1 : decide ((k : Int) < 3) = false := decide_eq_false (by omega)
              have hltI : ¬ (k : Int) < 3 := by omega
              have s5 := hid hs
              clear hs
              have c5 := hid s5.out.1
              go_wp2_with fail
              refine (known5_any _ (url_below HT.out c5.out)).mono ?_
              rintro e v3 ⟨rfl, j3⟩
              have c6 := c5.out.trans (j3.mono c5.out.size)
              clear j3
              go_wp2_with fail
              refine (baseG_any _).mono ?_
              rintro e v4 ⟨q4, rfl, hp4, j4⟩
              have hp4 := hid hp4
              have c7 := c6.trans (j4.mono c6.size)
              clear j4
              go_wp2_with fail
              refine (rbaseG_any _).mono ?_
              rintro e v5 ⟨q5, rfl, hp5, j5⟩
              have hp5 := hid hp5
              have c8 := c7.trans (j5.mono c7.size)
              have hp6 := hid (hp4.out.below j5)
              clear j5
              go_wp2_with fail
              refine (sameP_any _ 26 26 bEl _ 9 9 bAt _ 3 3 bSc _ 26 26 bEl _ 9 9 bAt _ 3 3 bSc _ hp6.out.three hp5.out.three).mono ?_
              rintro e v6 ⟨he, j6⟩
              have he2 : e = .returned (.bool true) := he.trans (by rw [decide_eq_true (rfl : bAt = bAt), decide_eq_true (rfl : bEl = bEl), decide_eq_true (rfl : bSc = bSc)]; rfl)
              subst he2
              clear he
              have c9 := c8.trans (j6.mono c8.size)
              clear j6
              go_wp2
              go_ret
              exact ⟨rfl, c9⟩
end Go.Proofs.YtpheaepifjcmiaaDoor.ruleBase
