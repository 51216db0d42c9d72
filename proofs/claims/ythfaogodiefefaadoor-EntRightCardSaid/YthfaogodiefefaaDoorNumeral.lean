/- Walks: package ent, the numeral that a text begins with. -/
import Derived.Test.YthfaogodiefefaaDoorChar
import Derived.Deep.LoopGhost
import Derived.Handy
namespace Go.Proofs.YthfaogodiefefaaDoor
open Go.RowKit Go.Lib Ent
set_option maxRecDepth 100000
set_option linter.unusedVariables false

def numeralV (v d m wd : Int) : Value := .agg #[.int .i64 v, .int .i64 d, .int .i64 m, .int .i64 wd]
def readV (l : List UInt8) : Ending :=
  if 0 < l.length ∧ U8.B l 0 = 35 then .returned (.tuple #[numeralV (min (numV l : Int) 1114112) (digs l).length (mostOf l) (numW l), .bool (decide (0 < (digs l).length))])
  else .returned (.tuple #[numeralV 0 0 0 0, .bool false])
/-- Behind j digits. -/
def NumInv (l : List UInt8) (b h : Nat) (j : Nat) (V : Int) : Prop := j ≤ (run b (l.drop h)).length ∧ V = min (valL b ((l.drop h).take j) : Int) 1114112
theorem NumInv.le {l : List UInt8} {b h j : Nat} {V : Int} (hi : NumInv l b h j V) (hh : h ≤ l.length) : h + j ≤ l.length ∧ 0 ≤ V ∧ V ≤ 1114112 := by
  have := run_le b (l.drop h)
  obtain ⟨h1, h2⟩ := hi
  simp at this
  omega
theorem NumInv.start (l : List UInt8) (b h : Nat) : NumInv l b h 0 0 := ⟨by omega, by rw [List.take_zero]; rfl⟩
theorem NumInv.step {l : List UInt8} {b h j : Nat} {V : Int} (hi : NumInv l b h j V) (hlt : h + j < l.length) (hb : 1 ≤ b) (h1 : 0 ≤ hexN (U8.B l (h + j))) (h2 : hexN (U8.B l (h + j)) < b) : NumInv l b h (j + 1) (min (V * b + hexN (U8.B l (h + j))) 1114112) := by
  have hl : j < (l.drop h).length := by simp; omega
  have hB : U8.B l (h + j) = ((l.drop h)[j]).toNat := by rw [← U8.B_drop, U8.B_eq (List.getElem?_eq_getElem hl)]
  rw [hB] at h1 h2 ⊢
  have hr := (run_step hl hi.1).1 (decide_eq_true ⟨h1, h2⟩)
  refine ⟨hr, ?_⟩
  rw [val_step b _ j hl, hi.2]
  have := min_step (valL b ((l.drop h).take j)) 1114112 b (hexN ((l.drop h)[j]).toNat) (by omega) (by omega) (by omega) h1
  rw [this, Int.natCast_add, Int.natCast_mul, Int.toNat_of_nonneg h1]
theorem NumInv.stop {l : List UInt8} {b h j : Nat} {V : Int} (hi : NumInv l b h j V) (hh : h ≤ l.length) (hs : l.length ≤ h + j ∨ ¬ (0 ≤ hexN (U8.B l (h + j)) ∧ hexN (U8.B l (h + j)) < b)) : (run b (l.drop h)).length = j ∧ V = min (valL b (run b (l.drop h)) : Int) 1114112 := by
  have h1 : (run b (l.drop h)).length = j := by
    rcases Nat.lt_or_ge (h + j) l.length with hlt | hge
    · have hl : j < (l.drop h).length := by simp; omega
      have hB : U8.B l (h + j) = ((l.drop h)[j]).toNat := by rw [← U8.B_drop, U8.B_eq (List.getElem?_eq_getElem hl)]
      rw [hB] at hs
      exact (run_step hl hi.1).2 (decide_eq_false (hs.resolve_left (by omega)))
    · have := run_le b (l.drop h)
      have := hi.1
      simp at *
      omega
  refine ⟨h1, ?_⟩
  rw [hi.2, run_take b (l.drop h), h1]
theorem bel2 (w : World) (A B : Obj) : Below w.heap.size w ((w.alloc A).alloc B).drew := (((Below.refl _ _).alloc (Nat.le_refl _) A).alloc (by simp) B).drew
/-- What is told in the end. -/
theorem read_end {l : List UInt8} {b h m j : Nat} {V : Int} (h0 : 0 < l.length ∧ U8.B l 0 = 35) (hb : baseOf l = b) (hh : headOf l = h) (hm : mostOf l = m) (he : (run b (l.drop h)).length = j ∧ V = min (valL b (run b (l.drop h)) : Int) 1114112) :
    readV l = .returned (.tuple #[.agg #[.int .i64 V, .int .i64 j, .int .i64 m, .int .i64 ((h : Int) + j)], .bool (decide (0 < j))]) := by
  have hd : digs l = run b (l.drop h) := by unfold digs; rw [if_pos h0, hb, hh]
  unfold readV numV numW numeralV
  rw [if_pos h0, hd, hb, hh, hm, he.1, he.2, Int.natCast_add]

set_option maxHeartbeats 4000000 in
theorem readNumeral_any (s : ByteArray) (w : World) (hs : s.size ≤ 1000000) :
    Calls Tryd.prog 37 #[.string s] w fun e w' => e = readV s.data.toList ∧ Below w.heap.size w w' := by
  have HP := fun w => Tryd.strings_HasPrefix s ⟨#[35]⟩ w
  rw [show (⟨#[35]⟩ : ByteArray).data.toList = [35] from rfl, pre1_eq] at HP
  by_cases h : 0 < s.data.toList.length ∧ U8.B s.data.toList 0 = 35
  · rw [show decide (0 < s.data.toList.length ∧ U8.B s.data.toList 0 = (35 : UInt8).toNat) = true from decide_eq_true h] at HP
    have HP2 := hid HP
    have H0 := hid h
    have hsl := size_list s
    have hpos : 1 ≤ s.size := by omega
    clear HP h
    by_cases h1 : 1 < s.size
    · have hg1 := get_of s 1 h1
      obtain ⟨c1, hc1⟩ : ∃ c, (s[1]'h1) = c := ⟨_, rfl⟩
      rw [hc1] at hg1
      have hd1 : decide ((1 : Int) < (s.size : Int)) = true := decide_eq_true (by omega)
      by_cases hx1 : c1.toNat = 120
      · have hb : baseOf s.data.toList = 16 ∧ headOf s.data.toList = 2 ∧ mostOf s.data.toList = 6 := by
          have hx : isX s.data.toList = true := decide_eq_true (by omega)
          unfold baseOf headOf mostOf
          rw [hx]
          exact ⟨rfl, rfl, rfl⟩
        have HB := hid hb
        have e1 : ((c1.toNat : Int) == 120) = true := by rw [hx1]; rfl
        clear hb hx1 hg1
        go_enter Tryd.func37, Tryd.ntmps37
        go_wp2_with fail
        refine (HP2.out _).mono ?_
        rintro e w' ⟨rfl, rfl⟩
        go_wp2
        go_loopg [6] s.size (fun g _ wx => ∃ (j : Nat) (V : Int), j + g = s.size ∧ Hid (NumInv s.data.toList 16 2 j V) ∧ 0 ≤ V ∧ V ≤ 1114112 ∧ wx = (w.alloc (.cells #[.int .i64 0, .int .i64 0, .int .i64 0, .int .i64 0] 62)).alloc (.cells #[.int .i64 V, .int .i64 j, .int .i64 6, .int .i64 ((2 : Int) + j)] 62))
        case atStart => exact ⟨0, 0, by omega, hid (NumInv.start _ _ _), by omega, by omega, rfl⟩
        case round =>
          obtain ⟨j, V, hj, hI, hV0, hV1, rfl⟩ := hrel
          by_cases hlt : 2 + j < s.size
          · have hd : decide ((2 : Int) + (j : Int) < (s.size : Int)) = true := decide_eq_true (by omega)
            have hg := get_of s (2 + j) hlt
            obtain ⟨c, hc⟩ : ∃ c, (s[2 + j]'hlt) = c := ⟨_, rfl⟩
            rw [hc] at hg
            have HX := fun w => chex_any c.toNat (UInt8.toNat_lt _) w
            have hb := hexN_lt (U8.B s.data.toList (2 + j))
            have HSt := hI.out.step (by rw [hsl]; exact hlt) (by omega)
            have HSp := hI.out.stop (by rw [hsl]; omega)
            rw [← hg] at hb HSt HSp
            obtain ⟨x, hx⟩ : ∃ x, hexN c.toNat = x := ⟨_, rfl⟩
            rw [hx] at HX hb HSt HSp
            have HX2 := hid HX
            clear hx HX hg hI
            by_cases hdg : 0 ≤ x ∧ x < 16
            · have HN : Hid (NumInv s.data.toList 16 2 (j + 1) (min (V * 16 + x) 1114112)) := hid (HSt hdg.1 hdg.2)
              obtain ⟨g1, g2⟩ := hdg
              have d1 : decide (x < 0) = false := decide_eq_false (by omega)
              have d2 : decide ((16 : Int) ≤ x) = false := decide_eq_false (by omega)
              clear HSt HSp hb
              go_wp2_with (go_at_call 51; refine (HX2.out _).mono ?_; rintro e w' ⟨rfl, rfl⟩)
              go_roundg (s.size - (j + 1))
              case measure => omega
              case rel => exact ⟨j + 1, _, by omega, HN, by omega, by omega, by simp only [Int.natCast_add, Int.natCast_one, Int.add_assoc]⟩
            · have HE := hid (read_end H0.out HB.out.1 HB.out.2.1 HB.out.2.2 (HSp (.inr hdg)))
              clear HSt HSp
              rcases (show x < 0 ∨ (0 ≤ x ∧ 16 ≤ x) by omega) with g1 | ⟨g1, g2⟩
              · have d1 : decide (x < 0) = true := decide_eq_true (by omega)
                clear hdg hb
                go_wp2_with (go_at_call 51; refine (HX2.out _).mono ?_; rintro e w' ⟨rfl, rfl⟩)
                go_region
                go_wp2
                go_returns
                exact ⟨HE.out.symm, bel2 w _ _⟩
              · have d1 : decide (x < 0) = false := decide_eq_false (by omega)
                have d2 : decide ((16 : Int) ≤ x) = true := decide_eq_true (by omega)
                clear hdg hb
                go_wp2_with (go_at_call 51; refine (HX2.out _).mono ?_; rintro e w' ⟨rfl, rfl⟩)
                go_region
                go_wp2
                go_returns
                exact ⟨HE.out.symm, bel2 w _ _⟩
          · have HE := hid (read_end H0.out HB.out.1 HB.out.2.1 HB.out.2.2 (hI.out.stop (by rw [hsl]; omega) (.inl (by rw [hsl]; omega))))
            have hd : decide ((2 : Int) + (j : Int) < (s.size : Int)) = false := decide_eq_false (by omega)
            clear hI
            go_wp2
            go_region
            go_wp2
            go_returns
            exact ⟨HE.out.symm, bel2 w _ _⟩
      · have e1 : ((c1.toNat : Int) == 120) = false := beq_eq_false_iff_ne.2 (by omega)
        by_cases hx2 : c1.toNat = 88
        · have hb : baseOf s.data.toList = 16 ∧ headOf s.data.toList = 2 ∧ mostOf s.data.toList = 6 := by
            have hx : isX s.data.toList = true := decide_eq_true (by omega)
            unfold baseOf headOf mostOf
            rw [hx]
            exact ⟨rfl, rfl, rfl⟩
          have HB := hid hb
          have e2 : ((c1.toNat : Int) == 88) = true := by rw [hx2]; rfl
          clear hb hx1 hx2 hg1
          go_enter Tryd.func37, Tryd.ntmps37
          go_wp2_with fail
          refine (HP2.out _).mono ?_
          rintro e w' ⟨rfl, rfl⟩
          go_wp2
          go_loopg [6] s.size (fun g _ wx => ∃ (j : Nat) (V : Int), j + g = s.size ∧ Hid (NumInv s.data.toList 16 2 j V) ∧ 0 ≤ V ∧ V ≤ 1114112 ∧ wx = (w.alloc (.cells #[.int .i64 0, .int .i64 0, .int .i64 0, .int .i64 0] 62)).alloc (.cells #[.int .i64 V, .int .i64 j, .int .i64 6, .int .i64 ((2 : Int) + j)] 62))
          case atStart => exact ⟨0, 0, by omega, hid (NumInv.start _ _ _), by omega, by omega, rfl⟩
          case round =>
            obtain ⟨j, V, hj, hI, hV0, hV1, rfl⟩ := hrel
            by_cases hlt : 2 + j < s.size
            · have hd : decide ((2 : Int) + (j : Int) < (s.size : Int)) = true := decide_eq_true (by omega)
              have hg := get_of s (2 + j) hlt
              obtain ⟨c, hc⟩ : ∃ c, (s[2 + j]'hlt) = c := ⟨_, rfl⟩
              rw [hc] at hg
              have HX := fun w => chex_any c.toNat (UInt8.toNat_lt _) w
              have hb := hexN_lt (U8.B s.data.toList (2 + j))
              have HSt := hI.out.step (by rw [hsl]; exact hlt) (by omega)
              have HSp := hI.out.stop (by rw [hsl]; omega)
              rw [← hg] at hb HSt HSp
              obtain ⟨x, hx⟩ : ∃ x, hexN c.toNat = x := ⟨_, rfl⟩
              rw [hx] at HX hb HSt HSp
              have HX2 := hid HX
              clear hx HX hg hI
              by_cases hdg : 0 ≤ x ∧ x < 16
              · have HN : Hid (NumInv s.data.toList 16 2 (j + 1) (min (V * 16 + x) 1114112)) := hid (HSt hdg.1 hdg.2)
                obtain ⟨g1, g2⟩ := hdg
                have d1 : decide (x < 0) = false := decide_eq_false (by omega)
                have d2 : decide ((16 : Int) ≤ x) = false := decide_eq_false (by omega)
                clear HSt HSp hb
                go_wp2_with (go_at_call 51; refine (HX2.out _).mono ?_; rintro e w' ⟨rfl, rfl⟩)
                go_roundg (s.size - (j + 1))
                case measure => omega
                case rel => exact ⟨j + 1, _, by omega, HN, by omega, by omega, by simp only [Int.natCast_add, Int.natCast_one, Int.add_assoc]⟩
              · have HE := hid (read_end H0.out HB.out.1 HB.out.2.1 HB.out.2.2 (HSp (.inr hdg)))
                clear HSt HSp
                rcases (show x < 0 ∨ (0 ≤ x ∧ 16 ≤ x) by omega) with g1 | ⟨g1, g2⟩
                · have d1 : decide (x < 0) = true := decide_eq_true (by omega)
                  clear hdg hb
                  go_wp2_with (go_at_call 51; refine (HX2.out _).mono ?_; rintro e w' ⟨rfl, rfl⟩)
                  go_region
                  go_wp2
                  go_returns
                  exact ⟨HE.out.symm, bel2 w _ _⟩
                · have d1 : decide (x < 0) = false := decide_eq_false (by omega)
                  have d2 : decide ((16 : Int) ≤ x) = true := decide_eq_true (by omega)
                  clear hdg hb
                  go_wp2_with (go_at_call 51; refine (HX2.out _).mono ?_; rintro e w' ⟨rfl, rfl⟩)
                  go_region
                  go_wp2
                  go_returns
                  exact ⟨HE.out.symm, bel2 w _ _⟩
            · have HE := hid (read_end H0.out HB.out.1 HB.out.2.1 HB.out.2.2 (hI.out.stop (by rw [hsl]; omega) (.inl (by rw [hsl]; omega))))
              have hd : decide ((2 : Int) + (j : Int) < (s.size : Int)) = false := decide_eq_false (by omega)
              clear hI
              go_wp2
              go_region
              go_wp2
              go_returns
              exact ⟨HE.out.symm, bel2 w _ _⟩
        · have hb : baseOf s.data.toList = 10 ∧ headOf s.data.toList = 1 ∧ mostOf s.data.toList = 7 := by
            have hx : isX s.data.toList = false := decide_eq_false (by omega)
            unfold baseOf headOf mostOf
            rw [hx]
            exact ⟨rfl, rfl, rfl⟩
          have HB := hid hb
          have e2 : ((c1.toNat : Int) == 88) = false := beq_eq_false_iff_ne.2 (by omega)
          clear hb hx1 hx2 hg1
          go_enter Tryd.func37, Tryd.ntmps37
          go_wp2_with fail
          refine (HP2.out _).mono ?_
          rintro e w' ⟨rfl, rfl⟩
          go_wp2
          go_loopg [6] s.size (fun g _ wx => ∃ (j : Nat) (V : Int), j + g = s.size ∧ Hid (NumInv s.data.toList 10 1 j V) ∧ 0 ≤ V ∧ V ≤ 1114112 ∧ wx = (w.alloc (.cells #[.int .i64 0, .int .i64 0, .int .i64 0, .int .i64 0] 62)).alloc (.cells #[.int .i64 V, .int .i64 j, .int .i64 7, .int .i64 ((1 : Int) + j)] 62))
          case atStart => exact ⟨0, 0, by omega, hid (NumInv.start _ _ _), by omega, by omega, rfl⟩
          case round =>
            obtain ⟨j, V, hj, hI, hV0, hV1, rfl⟩ := hrel
            by_cases hlt : 1 + j < s.size
            · have hd : decide ((1 : Int) + (j : Int) < (s.size : Int)) = true := decide_eq_true (by omega)
              have hg := get_of s (1 + j) hlt
              obtain ⟨c, hc⟩ : ∃ c, (s[1 + j]'hlt) = c := ⟨_, rfl⟩
              rw [hc] at hg
              have HX := fun w => chex_any c.toNat (UInt8.toNat_lt _) w
              have hb := hexN_lt (U8.B s.data.toList (1 + j))
              have HSt := hI.out.step (by rw [hsl]; exact hlt) (by omega)
              have HSp := hI.out.stop (by rw [hsl]; omega)
              rw [← hg] at hb HSt HSp
              obtain ⟨x, hx⟩ : ∃ x, hexN c.toNat = x := ⟨_, rfl⟩
              rw [hx] at HX hb HSt HSp
              have HX2 := hid HX
              clear hx HX hg hI
              by_cases hdg : 0 ≤ x ∧ x < 10
              · have HN : Hid (NumInv s.data.toList 10 1 (j + 1) (min (V * 10 + x) 1114112)) := hid (HSt hdg.1 hdg.2)
                obtain ⟨g1, g2⟩ := hdg
                have d1 : decide (x < 0) = false := decide_eq_false (by omega)
                have d2 : decide ((10 : Int) ≤ x) = false := decide_eq_false (by omega)
                clear HSt HSp hb
                go_wp2_with (go_at_call 51; refine (HX2.out _).mono ?_; rintro e w' ⟨rfl, rfl⟩)
                go_roundg (s.size - (j + 1))
                case measure => omega
                case rel => exact ⟨j + 1, _, by omega, HN, by omega, by omega, by simp only [Int.natCast_add, Int.natCast_one, Int.add_assoc]⟩
              · have HE := hid (read_end H0.out HB.out.1 HB.out.2.1 HB.out.2.2 (HSp (.inr hdg)))
                clear HSt HSp
                rcases (show x < 0 ∨ (0 ≤ x ∧ 10 ≤ x) by omega) with g1 | ⟨g1, g2⟩
                · have d1 : decide (x < 0) = true := decide_eq_true (by omega)
                  clear hdg hb
                  go_wp2_with (go_at_call 51; refine (HX2.out _).mono ?_; rintro e w' ⟨rfl, rfl⟩)
                  go_region
                  go_wp2
                  go_returns
                  exact ⟨HE.out.symm, bel2 w _ _⟩
                · have d1 : decide (x < 0) = false := decide_eq_false (by omega)
                  have d2 : decide ((10 : Int) ≤ x) = true := decide_eq_true (by omega)
                  clear hdg hb
                  go_wp2_with (go_at_call 51; refine (HX2.out _).mono ?_; rintro e w' ⟨rfl, rfl⟩)
                  go_region
                  go_wp2
                  go_returns
                  exact ⟨HE.out.symm, bel2 w _ _⟩
            · have HE := hid (read_end H0.out HB.out.1 HB.out.2.1 HB.out.2.2 (hI.out.stop (by rw [hsl]; omega) (.inl (by rw [hsl]; omega))))
              have hd : decide ((1 : Int) + (j : Int) < (s.size : Int)) = false := decide_eq_false (by omega)
              clear hI
              go_wp2
              go_region
              go_wp2
              go_returns
              exact ⟨HE.out.symm, bel2 w _ _⟩
    · have hb : baseOf s.data.toList = 10 ∧ headOf s.data.toList = 1 ∧ mostOf s.data.toList = 7 := by
        have hx : isX s.data.toList = false := decide_eq_false (by omega)
        unfold baseOf headOf mostOf
        rw [hx]
        exact ⟨rfl, rfl, rfl⟩
      have HB := hid hb
      have hd1 : decide ((1 : Int) < (s.size : Int)) = false := decide_eq_false (by omega)
      clear hb
      go_enter Tryd.func37, Tryd.ntmps37
      go_wp2_with fail
      refine (HP2.out _).mono ?_
      rintro e w' ⟨rfl, rfl⟩
      go_wp2
      go_loopg [6] s.size (fun g _ wx => ∃ (j : Nat) (V : Int), j + g = s.size ∧ Hid (NumInv s.data.toList 10 1 j V) ∧ 0 ≤ V ∧ V ≤ 1114112 ∧ wx = (w.alloc (.cells #[.int .i64 0, .int .i64 0, .int .i64 0, .int .i64 0] 62)).alloc (.cells #[.int .i64 V, .int .i64 j, .int .i64 7, .int .i64 ((1 : Int) + j)] 62))
      case atStart => exact ⟨0, 0, by omega, hid (NumInv.start _ _ _), by omega, by omega, rfl⟩
      case round =>
        obtain ⟨j, V, hj, hI, hV0, hV1, rfl⟩ := hrel
        have HE := hid (read_end H0.out HB.out.1 HB.out.2.1 HB.out.2.2 (hI.out.stop (by rw [hsl]; omega) (.inl (by rw [hsl]; omega))))
        have hd : decide ((1 : Int) + (j : Int) < (s.size : Int)) = false := decide_eq_false (by omega)
        clear hI
        go_wp2
        go_region
        go_wp2
        go_returns
        exact ⟨HE.out.symm, bel2 w _ _⟩
  · rw [show decide (0 < s.data.toList.length ∧ U8.B s.data.toList 0 = (35 : UInt8).toNat) = false from decide_eq_false h] at HP
    have e : readV s.data.toList = .returned (.tuple #[numeralV 0 0 0 0, .bool false]) := by unfold readV; rw [if_neg h]
    rw [e]
    have HP2 := hid HP
    clear HP h e
    unfold numeralV
    go_enter Tryd.func37, Tryd.ntmps37
    go_wp2_with fail
    refine (HP2.out _).mono ?_
    rintro e w' ⟨rfl, rfl⟩
    go_wp2
    go_returns
    exact ⟨rfl, (Below.refl _ _).alloc (Nat.le_refl _) _⟩
end Go.Proofs.YthfaogodiefefaaDoor
