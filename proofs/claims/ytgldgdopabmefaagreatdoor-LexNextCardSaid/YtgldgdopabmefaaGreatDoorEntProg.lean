/- Walks: package ent, the numeral that a text begins with. Walks: package ent, what an & stands for. Walks: package ent, Decode. -/
import Derived.Test.YtgldgdopabmefaaGreatDoorChar
import Derived.Test.YtgldgdopabmefaaGreatDoorNamed
import Derived.Test.YtgldgdopabmefaaGreatDoorRefHex
import Derived.Deep.LoopGhost
import Derived.Handy
namespace Go.Proofs.YtgldgdopabmefaaGreatDoor
open Go.RowKit Go.Lib Ent
set_option maxRecDepth 100000
set_option linter.unusedVariables false

def numeralV (v d m wd : Int) : Value := .agg #[.int .i64 v, .int .i64 d, .int .i64 m, .int .i64 wd]
def readV (l : List UInt8) : Ending :=
  if 0 < l.length ∧ U8.B l 0 = 35 then .returned (.tuple #[numeralV (min (numV l : Int) 1114112) (digs l).length (mostOf l) (numW l), .bool (decide (0 < (digs l).length))])
  else .returned (.tuple #[numeralV 0 0 0 0, .bool false])
/-- Behind j digits. -/
def NumInv (l : List UInt8) (b h : Nat) (j : Nat) (V : Int) : Prop := j ≤ (run b (l.drop h)).length ∧ V = min (valL b ((l.drop h).take j) : Int) 1114112
theorem NumInv.le {l : List UInt8} {b h j : Nat} {V : Int} (hi : NumInv l b h j V) (hh : h ≤ l.length) : h + j ≤ l.length ∧ 0 ≤ V ∧ V ≤ 1114112 := by
  have := run_le b (l.drop h)
  obtain ⟨h1, h2⟩ := hi
  simp at this
  omega
theorem NumInv.start (l : List UInt8) (b h : Nat) : NumInv l b h 0 0 := ⟨by omega, by rw [List.take_zero]; rfl⟩
theorem NumInv.step {l : List UInt8} {b h j : Nat} {V : Int} (hi : NumInv l b h j V) (hlt : h + j < l.length) (hb : 1 ≤ b) (h1 : 0 ≤ hexN (U8.B l (h + j))) (h2 : hexN (U8.B l (h + j)) < b) : NumInv l b h (j + 1) (min (V * b + hexN (U8.B l (h + j))) 1114112) := by
  have hl : j < (l.drop h).length := by simp; omega
  have hB : U8.B l (h + j) = ((l.drop h)[j]).toNat := by rw [← U8.B_drop, U8.B_eq (List.getElem?_eq_getElem hl)]
  rw [hB] at h1 h2 ⊢
  have hr := (run_step hl hi.1).1 (decide_eq_true ⟨h1, h2⟩)
  refine ⟨hr, ?_⟩
  rw [val_step b _ j hl, hi.2]
  have := min_step (valL b ((l.drop h).take j)) 1114112 b (hexN ((l.drop h)[j]).toNat) (by omega) (by omega) (by omega) h1
  rw [this, Int.natCast_add, Int.natCast_mul, Int.toNat_of_nonneg h1]
theorem NumInv.stop {l : List UInt8} {b h j : Nat} {V : Int} (hi : NumInv l b h j V) (hh : h ≤ l.length) (hs : l.length ≤ h + j ∨ ¬ (0 ≤ hexN (U8.B l (h + j)) ∧ hexN (U8.B l (h + j)) < b)) : (run b (l.drop h)).length = j ∧ V = min (valL b (run b (l.drop h)) : Int) 1114112 := by
  have h1 : (run b (l.drop h)).length = j := by
    rcases Nat.lt_or_ge (h + j) l.length with hlt | hge
    · have hl : j < (l.drop h).length := by simp; omega
      have hB : U8.B l (h + j) = ((l.drop h)[j]).toNat := by rw [← U8.B_drop, U8.B_eq (List.getElem?_eq_getElem hl)]
      rw [hB] at hs
      exact (run_step hl hi.1).2 (decide_eq_false (hs.resolve_left (by omega)))
    · have := run_le b (l.drop h)
      have := hi.1
      simp at *
      omega
  refine ⟨h1, ?_⟩
  rw [hi.2, run_take b (l.drop h), h1]
theorem bel2 (w : World) (A B : Obj) : Below w.heap.size w ((w.alloc A).alloc B).drew := (((Below.refl _ _).alloc (Nat.le_refl _) A).alloc (by simp) B).drew
/-- What is told in the end. -/
theorem read_end {l : List UInt8} {b h m j : Nat} {V : Int} (h0 : 0 < l.length ∧ U8.B l 0 = 35) (hb : baseOf l = b) (hh : headOf l = h) (hm : mostOf l = m) (he : (run b (l.drop h)).length = j ∧ V = min (valL b (run b (l.drop h)) : Int) 1114112) :
    readV l = .returned (.tuple #[.agg #[.int .i64 V, .int .i64 j, .int .i64 m, .int .i64 ((h : Int) + j)], .bool (decide (0 < j))]) := by
  have hd : digs l = run b (l.drop h) := by unfold digs; rw [if_pos h0, hb, hh]
  unfold readV numV numW numeralV
  rw [if_pos h0, hd, hb, hh, hm, he.1, he.2, Int.natCast_add]

set_option maxHeartbeats 4000000 in
theorem readNumeral_any (s : ByteArray) (w : World) (hs : s.size ≤ 1000000) :
    Calls Tryz.prog 79 #[.string s] w fun e w' => e = readV s.data.toList ∧ Below w.heap.size w w' := by
  have HP := fun w => Tryz.strings_HasPrefix s ⟨#[35]⟩ w
  rw [show (⟨#[35]⟩ : ByteArray).data.toList = [35] from rfl, pre1_eq] at HP
  by_cases h : 0 < s.data.toList.length ∧ U8.B s.data.toList 0 = 35
  · rw [show decide (0 < s.data.toList.length ∧ U8.B s.data.toList 0 = (35 : UInt8).toNat) = true from decide_eq_true h] at HP
    have HP2 := hid HP
    have H0 := hid h
    have hsl := size_list s
    have hpos : 1 ≤ s.size := by omega
    clear HP h
    by_cases h1 : 1 < s.size
    · have hg1 := get_of s 1 h1
      obtain ⟨c1, hc1⟩ : ∃ c, (s[1]'h1) = c := ⟨_, rfl⟩
      rw [hc1] at hg1
      have hd1 : decide ((1 : Int) < (s.size : Int)) = true := decide_eq_true (by omega)
      by_cases hx1 : c1.toNat = 120
      · have hb : baseOf s.data.toList = 16 ∧ headOf s.data.toList = 2 ∧ mostOf s.data.toList = 6 := by
          have hx : isX s.data.toList = true := decide_eq_true (by omega)
          unfold baseOf headOf mostOf
          rw [hx]
          exact ⟨rfl, rfl, rfl⟩
        have HB := hid hb
        have e1 : ((c1.toNat : Int) == 120) = true := by rw [hx1]; rfl
        clear hb hx1 hg1
        go_enter Tryz.func79, Tryz.ntmps79
        go_wp2_with fail
        refine (HP2.out _).mono ?_
        rintro e w' ⟨rfl, rfl⟩
        go_wp2
        go_loopg [6] s.size (fun g _ wx => ∃ (j : Nat) (V : Int), j + g = s.size ∧ Hid (NumInv s.data.toList 16 2 j V) ∧ 0 ≤ V ∧ V ≤ 1114112 ∧ wx = (w.alloc (.cells #[.int .i64 0, .int .i64 0, .int .i64 0, .int .i64 0] 96)).alloc (.cells #[.int .i64 V, .int .i64 j, .int .i64 6, .int .i64 ((2 : Int) + j)] 96))
        case atStart => exact ⟨0, 0, by omega, hid (NumInv.start _ _ _), by omega, by omega, rfl⟩
        case round =>
          obtain ⟨j, V, hj, hI, hV0, hV1, rfl⟩ := hrel
          by_cases hlt : 2 + j < s.size
          · have hd : decide ((2 : Int) + (j : Int) < (s.size : Int)) = true := decide_eq_true (by omega)
            have hg := get_of s (2 + j) hlt
            obtain ⟨c, hc⟩ : ∃ c, (s[2 + j]'hlt) = c := ⟨_, rfl⟩
            rw [hc] at hg
            have HX := fun w => chex_any c.toNat (UInt8.toNat_lt _) w
            have hb := hexN_lt (U8.B s.data.toList (2 + j))
            have HSt := hI.out.step (by rw [hsl]; exact hlt) (by omega)
            have HSp := hI.out.stop (by rw [hsl]; omega)
            rw [← hg] at hb HSt HSp
            obtain ⟨x, hx⟩ : ∃ x, hexN c.toNat = x := ⟨_, rfl⟩
            rw [hx] at HX hb HSt HSp
            have HX2 := hid HX
            clear hx HX hg hI
            by_cases hdg : 0 ≤ x ∧ x < 16
            · have HN : Hid (NumInv s.data.toList 16 2 (j + 1) (min (V * 16 + x) 1114112)) := hid (HSt hdg.1 hdg.2)
              obtain ⟨g1, g2⟩ := hdg
              have d1 : decide (x < 0) = false := decide_eq_false (by omega)
              have d2 : decide ((16 : Int) ≤ x) = false := decide_eq_false (by omega)
              clear HSt HSp hb
              go_wp2_with (go_at_call 101; refine (HX2.out _).mono ?_; rintro e w' ⟨rfl, rfl⟩)
              go_roundg (s.size - (j + 1))
              case measure => omega
              case rel => exact ⟨j + 1, _, by omega, HN, by omega, by omega, by simp only [Int.natCast_add, Int.natCast_one, Int.add_assoc]⟩
            · have HE := hid (read_end H0.out HB.out.1 HB.out.2.1 HB.out.2.2 (HSp (.inr hdg)))
              clear HSt HSp
              rcases (show x < 0 ∨ (0 ≤ x ∧ 16 ≤ x) by omega) with g1 | ⟨g1, g2⟩
              · have d1 : decide (x < 0) = true := decide_eq_true (by omega)
                clear hdg hb
                go_wp2_with (go_at_call 101; refine (HX2.out _).mono ?_; rintro e w' ⟨rfl, rfl⟩)
                go_region
                go_wp2
                go_returns
                exact ⟨HE.out.symm, bel2 w _ _⟩
              · have d1 : decide (x < 0) = false := decide_eq_false (by omega)
                have d2 : decide ((16 : Int) ≤ x) = true := decide_eq_true (by omega)
                clear hdg hb
                go_wp2_with (go_at_call 101; refine (HX2.out _).mono ?_; rintro e w' ⟨rfl, rfl⟩)
                go_region
                go_wp2
                go_returns
                exact ⟨HE.out.symm, bel2 w _ _⟩
          · have HE := hid (read_end H0.out HB.out.1 HB.out.2.1 HB.out.2.2 (hI.out.stop (by rw [hsl]; omega) (.inl (by rw [hsl]; omega))))
            have hd : decide ((2 : Int) + (j : Int) < (s.size : Int)) = false := decide_eq_false (by omega)
            clear hI
            go_wp2
            go_region
            go_wp2
            go_returns
            exact ⟨HE.out.symm, bel2 w _ _⟩
      · have e1 : ((c1.toNat : Int) == 120) = false := beq_eq_false_iff_ne.2 (by omega)
        by_cases hx2 : c1.toNat = 88
        · have hb : baseOf s.data.toList = 16 ∧ headOf s.data.toList = 2 ∧ mostOf s.data.toList = 6 := by
            have hx : isX s.data.toList = true := decide_eq_true (by omega)
            unfold baseOf headOf mostOf
            rw [hx]
            exact ⟨rfl, rfl, rfl⟩
          have HB := hid hb
          have e2 : ((c1.toNat : Int) == 88) = true := by rw [hx2]; rfl
          clear hb hx1 hx2 hg1
          go_enter Tryz.func79, Tryz.ntmps79
          go_wp2_with fail
          refine (HP2.out _).mono ?_
          rintro e w' ⟨rfl, rfl⟩
          go_wp2
          go_loopg [6] s.size (fun g _ wx => ∃ (j : Nat) (V : Int), j + g = s.size ∧ Hid (NumInv s.data.toList 16 2 j V) ∧ 0 ≤ V ∧ V ≤ 1114112 ∧ wx = (w.alloc (.cells #[.int .i64 0, .int .i64 0, .int .i64 0, .int .i64 0] 96)).alloc (.cells #[.int .i64 V, .int .i64 j, .int .i64 6, .int .i64 ((2 : Int) + j)] 96))
          case atStart => exact ⟨0, 0, by omega, hid (NumInv.start _ _ _), by omega, by omega, rfl⟩
          case round =>
            obtain ⟨j, V, hj, hI, hV0, hV1, rfl⟩ := hrel
            by_cases hlt : 2 + j < s.size
            · have hd : decide ((2 : Int) + (j : Int) < (s.size : Int)) = true := decide_eq_true (by omega)
              have hg := get_of s (2 + j) hlt
              obtain ⟨c, hc⟩ : ∃ c, (s[2 + j]'hlt) = c := ⟨_, rfl⟩
              rw [hc] at hg
              have HX := fun w => chex_any c.toNat (UInt8.toNat_lt _) w
              have hb := hexN_lt (U8.B s.data.toList (2 + j))
              have HSt := hI.out.step (by rw [hsl]; exact hlt) (by omega)
              have HSp := hI.out.stop (by rw [hsl]; omega)
              rw [← hg] at hb HSt HSp
              obtain ⟨x, hx⟩ : ∃ x, hexN c.toNat = x := ⟨_, rfl⟩
              rw [hx] at HX hb HSt HSp
              have HX2 := hid HX
              clear hx HX hg hI
              by_cases hdg : 0 ≤ x ∧ x < 16
              · have HN : Hid (NumInv s.data.toList 16 2 (j + 1) (min (V * 16 + x) 1114112)) := hid (HSt hdg.1 hdg.2)
                obtain ⟨g1, g2⟩ := hdg
                have d1 : decide (x < 0) = false := decide_eq_false (by omega)
                have d2 : decide ((16 : Int) ≤ x) = false := decide_eq_false (by omega)
                clear HSt HSp hb
                go_wp2_with (go_at_call 101; refine (HX2.out _).mono ?_; rintro e w' ⟨rfl, rfl⟩)
                go_roundg (s.size - (j + 1))
                case measure => omega
                case rel => exact ⟨j + 1, _, by omega, HN, by omega, by omega, by simp only [Int.natCast_add, Int.natCast_one, Int.add_assoc]⟩
              · have HE := hid (read_end H0.out HB.out.1 HB.out.2.1 HB.out.2.2 (HSp (.inr hdg)))
                clear HSt HSp
                rcases (show x < 0 ∨ (0 ≤ x ∧ 16 ≤ x) by omega) with g1 | ⟨g1, g2⟩
                · have d1 : decide (x < 0) = true := decide_eq_true (by omega)
                  clear hdg hb
                  go_wp2_with (go_at_call 101; refine (HX2.out _).mono ?_; rintro e w' ⟨rfl, rfl⟩)
                  go_region
                  go_wp2
                  go_returns
                  exact ⟨HE.out.symm, bel2 w _ _⟩
                · have d1 : decide (x < 0) = false := decide_eq_false (by omega)
                  have d2 : decide ((16 : Int) ≤ x) = true := decide_eq_true (by omega)
                  clear hdg hb
                  go_wp2_with (go_at_call 101; refine (HX2.out _).mono ?_; rintro e w' ⟨rfl, rfl⟩)
                  go_region
                  go_wp2
                  go_returns
                  exact ⟨HE.out.symm, bel2 w _ _⟩
            · have HE := hid (read_end H0.out HB.out.1 HB.out.2.1 HB.out.2.2 (hI.out.stop (by rw [hsl]; omega) (.inl (by rw [hsl]; omega))))
              have hd : decide ((2 : Int) + (j : Int) < (s.size : Int)) = false := decide_eq_false (by omega)
              clear hI
              go_wp2
              go_region
              go_wp2
              go_returns
              exact ⟨HE.out.symm, bel2 w _ _⟩
        · have hb : baseOf s.data.toList = 10 ∧ headOf s.data.toList = 1 ∧ mostOf s.data.toList = 7 := by
            have hx : isX s.data.toList = false := decide_eq_false (by omega)
            unfold baseOf headOf mostOf
            rw [hx]
            exact ⟨rfl, rfl, rfl⟩
          have HB := hid hb
          have e2 : ((c1.toNat : Int) == 88) = false := beq_eq_false_iff_ne.2 (by omega)
          clear hb hx1 hx2 hg1
          go_enter Tryz.func79, Tryz.ntmps79
          go_wp2_with fail
          refine (HP2.out _).mono ?_
          rintro e w' ⟨rfl, rfl⟩
          go_wp2
          go_loopg [6] s.size (fun g _ wx => ∃ (j : Nat) (V : Int), j + g = s.size ∧ Hid (NumInv s.data.toList 10 1 j V) ∧ 0 ≤ V ∧ V ≤ 1114112 ∧ wx = (w.alloc (.cells #[.int .i64 0, .int .i64 0, .int .i64 0, .int .i64 0] 96)).alloc (.cells #[.int .i64 V, .int .i64 j, .int .i64 7, .int .i64 ((1 : Int) + j)] 96))
          case atStart => exact ⟨0, 0, by omega, hid (NumInv.start _ _ _), by omega, by omega, rfl⟩
          case round =>
            obtain ⟨j, V, hj, hI, hV0, hV1, rfl⟩ := hrel
            by_cases hlt : 1 + j < s.size
            · have hd : decide ((1 : Int) + (j : Int) < (s.size : Int)) = true := decide_eq_true (by omega)
              have hg := get_of s (1 + j) hlt
              obtain ⟨c, hc⟩ : ∃ c, (s[1 + j]'hlt) = c := ⟨_, rfl⟩
              rw [hc] at hg
              have HX := fun w => chex_any c.toNat (UInt8.toNat_lt _) w
              have hb := hexN_lt (U8.B s.data.toList (1 + j))
              have HSt := hI.out.step (by rw [hsl]; exact hlt) (by omega)
              have HSp := hI.out.stop (by rw [hsl]; omega)
              rw [← hg] at hb HSt HSp
              obtain ⟨x, hx⟩ : ∃ x, hexN c.toNat = x := ⟨_, rfl⟩
              rw [hx] at HX hb HSt HSp
              have HX2 := hid HX
              clear hx HX hg hI
              by_cases hdg : 0 ≤ x ∧ x < 10
              · have HN : Hid (NumInv s.data.toList 10 1 (j + 1) (min (V * 10 + x) 1114112)) := hid (HSt hdg.1 hdg.2)
                obtain ⟨g1, g2⟩ := hdg
                have d1 : decide (x < 0) = false := decide_eq_false (by omega)
                have d2 : decide ((10 : Int) ≤ x) = false := decide_eq_false (by omega)
                clear HSt HSp hb
                go_wp2_with (go_at_call 101; refine (HX2.out _).mono ?_; rintro e w' ⟨rfl, rfl⟩)
                go_roundg (s.size - (j + 1))
                case measure => omega
                case rel => exact ⟨j + 1, _, by omega, HN, by omega, by omega, by simp only [Int.natCast_add, Int.natCast_one, Int.add_assoc]⟩
              · have HE := hid (read_end H0.out HB.out.1 HB.out.2.1 HB.out.2.2 (HSp (.inr hdg)))
                clear HSt HSp
                rcases (show x < 0 ∨ (0 ≤ x ∧ 10 ≤ x) by omega) with g1 | ⟨g1, g2⟩
                · have d1 : decide (x < 0) = true := decide_eq_true (by omega)
                  clear hdg hb
                  go_wp2_with (go_at_call 101; refine (HX2.out _).mono ?_; rintro e w' ⟨rfl, rfl⟩)
                  go_region
                  go_wp2
                  go_returns
                  exact ⟨HE.out.symm, bel2 w _ _⟩
                · have d1 : decide (x < 0) = false := decide_eq_false (by omega)
                  have d2 : decide ((10 : Int) ≤ x) = true := decide_eq_true (by omega)
                  clear hdg hb
                  go_wp2_with (go_at_call 101; refine (HX2.out _).mono ?_; rintro e w' ⟨rfl, rfl⟩)
                  go_region
                  go_wp2
                  go_returns
                  exact ⟨HE.out.symm, bel2 w _ _⟩
            · have HE := hid (read_end H0.out HB.out.1 HB.out.2.1 HB.out.2.2 (hI.out.stop (by rw [hsl]; omega) (.inl (by rw [hsl]; omega))))
              have hd : decide ((1 : Int) + (j : Int) < (s.size : Int)) = false := decide_eq_false (by omega)
              clear hI
              go_wp2
              go_region
              go_wp2
              go_returns
              exact ⟨HE.out.symm, bel2 w _ _⟩
    · have hb : baseOf s.data.toList = 10 ∧ headOf s.data.toList = 1 ∧ mostOf s.data.toList = 7 := by
        have hx : isX s.data.toList = false := decide_eq_false (by omega)
        unfold baseOf headOf mostOf
        rw [hx]
        exact ⟨rfl, rfl, rfl⟩
      have HB := hid hb
      have hd1 : decide ((1 : Int) < (s.size : Int)) = false := decide_eq_false (by omega)
      clear hb
      go_enter Tryz.func79, Tryz.ntmps79
      go_wp2_with fail
      refine (HP2.out _).mono ?_
      rintro e w' ⟨rfl, rfl⟩
      go_wp2
      go_loopg [6] s.size (fun g _ wx => ∃ (j : Nat) (V : Int), j + g = s.size ∧ Hid (NumInv s.data.toList 10 1 j V) ∧ 0 ≤ V ∧ V ≤ 1114112 ∧ wx = (w.alloc (.cells #[.int .i64 0, .int .i64 0, .int .i64 0, .int .i64 0] 96)).alloc (.cells #[.int .i64 V, .int .i64 j, .int .i64 7, .int .i64 ((1 : Int) + j)] 96))
      case atStart => exact ⟨0, 0, by omega, hid (NumInv.start _ _ _), by omega, by omega, rfl⟩
      case round =>
        obtain ⟨j, V, hj, hI, hV0, hV1, rfl⟩ := hrel
        have HE := hid (read_end H0.out HB.out.1 HB.out.2.1 HB.out.2.2 (hI.out.stop (by rw [hsl]; omega) (.inl (by rw [hsl]; omega))))
        have hd : decide ((1 : Int) + (j : Int) < (s.size : Int)) = false := decide_eq_false (by omega)
        clear hI
        go_wp2
        go_region
        go_wp2
        go_returns
        exact ⟨HE.out.symm, bel2 w _ _⟩
  · rw [show decide (0 < s.data.toList.length ∧ U8.B s.data.toList 0 = (35 : UInt8).toNat) = false from decide_eq_false h] at HP
    have e : readV s.data.toList = .returned (.tuple #[numeralV 0 0 0 0, .bool false]) := by unfold readV; rw [if_neg h]
    rw [e]
    have HP2 := hid HP
    clear HP h e
    unfold numeralV
    go_enter Tryz.func79, Tryz.ntmps79
    go_wp2_with fail
    refine (HP2.out _).mono ?_
    rintro e w' ⟨rfl, rfl⟩
    go_wp2
    go_returns
    exact ⟨rfl, (Below.refl _ _).alloc (Nat.le_refl _) _⟩
end Go.Proofs.YtgldgdopabmefaaGreatDoor
namespace Go.Proofs.YtgldgdopabmefaaGreatDoor
open Go.RowKit Go.Lib Ent
set_option maxRecDepth 100000
set_option linter.unusedVariables false

theorem ctl_drew {w : World} (h : CtlTab w) (n : Nat) : CtlTab (w.drewN n) := h
theorem quiet_same {P : Program} {f : FuncId} {args : Array Value} {w : World} {n : Nat} {v : Value}
    (h : Calls P f args (w.drewN n) fun e w' => e = .returned v ∧ w.drewN n = w') : Calls P f args (w.drewN n) fun e w'' => e = .returned v ∧ ∃ m, w'' = w.drewN m :=
  Calls.quiet_of_same (h.mono fun _ _ ⟨a, b⟩ => ⟨a, b.symm⟩)
theorem num_char (n : Int) : ∃ c : Nat, numZ n = c ∧ OkC c ∧ (numZ n).toNat = c := by
  have h := numZ_ok n
  have h2 := numZ_okC n
  exact ⟨(numZ n).toNat, by omega, h2.2, rfl⟩
theorem char_char (n : Int) : ∃ c : Nat, charZ n = c ∧ OkC c ∧ (charZ n).toNat = c := by
  have h := numZ_ok n
  have h2 := charZ_okC n
  exact ⟨(charZ n).toNat, by omega, h2.2, rfl⟩
theorem readV_yes {l : List UInt8} (h : digs l ≠ []) : readV l = .returned (.tuple #[numeralV (min (numV l : Int) 1114112) (digs l).length (mostOf l) (numW l), .bool true]) := by
  have h1 := digs_le h
  unfold readV
  rw [if_pos ⟨h1.2.2.1, h1.2.2.2.1⟩, decide_eq_true (by omega)]
theorem readV_no {l : List UInt8} (h : digs l = []) : ∃ a b c d : Int, readV l = .returned (.tuple #[numeralV a b c d, .bool false]) := by
  unfold readV
  split
  · rw [decide_eq_false (by rw [h]; simp)]
    exact ⟨_, _, _, _, rfl⟩
  · exact ⟨_, _, _, _, rfl⟩

set_option maxHeartbeats 2000000 in
theorem reference_any (s : ByteArray) (attr : Bool) (w : World) (hs : s.size ≤ 1000000) (hT : CtlTab w) :
    Calls Tryz.prog 52 #[.string s, .bool attr] w fun e w' => e = .returned (.tuple #[.string ⟨(refer attr s.data.toList).1.toArray⟩, .int .i64 (refer attr s.data.toList).2]) ∧ Below w.heap.size w w' := by
  have HR := readNumeral_any s w hs
  have hsl := size_list s
  by_cases hd : digs s.data.toList = []
  · obtain ⟨v1, v2, v3, v4, hrn⟩ := readV_no hd
    rw [hrn] at HR
    unfold numeralV at HR
    have e : refer attr s.data.toList = if (named s.data.toList).2 = 0 ∨ refuses attr s.data.toList = true then ([38], 0) else named s.data.toList := by unfold refer; rw [if_neg (fun h => h hd)]
    have HN := fun w => named_any s w hs
    unfold namedV at HN
    have hnc := named_cases s.data.toList
    obtain ⟨i, n, hin⟩ : ∃ i n, named s.data.toList = (i, n) := ⟨_, _, rfl⟩
    have er : refuses attr s.data.toList = (attr && decide (U8.B s.data.toList (n - 1) ≠ 59) && goesOn (s.data.toList.drop n)) := by unfold refuses; rw [hin]
    rw [hin] at HN e hnc
    simp only at HN e hnc
    have hn8 : n ≤ 8 := hnc.2.1
    have hnl : n ≤ s.size := by omega
    have HR := hid HR
    have HN := hid HN
    clear hin hd hrn hT hnc
    by_cases hn0 : n = 0
    · rw [if_pos (.inl hn0)] at e
      rw [e]
      subst hn0
      clear e er
      go_enter Tryz.func52, Tryz.ntmps52
      go_wp2_with fail
      refine HR.out.mono ?_
      rintro e w1 ⟨rfl, b1⟩
      have b2 := hid (b1.trans (((Below.refl w1.heap.size w1).alloc (Nat.le_refl _) (.cells #[.int .i64 v1, .int .i64 v2, .int .i64 v3, .int .i64 v4] 96)).mono b1.size))
      clear b1
      go_wp2_with fail
      refine (HN.out _).mono ?_
      rintro e w2 ⟨rfl, b3⟩
      have b4 := hid (b2.out.trans (b3.mono b2.out.size))
      clear b3
      go_wp2
      go_ret2
      exact ⟨rfl, b4.out⟩
    · obtain ⟨k, rfl⟩ : ∃ k, n = k + 1 := ⟨n - 1, by omega⟩
      clear hn0
      have hkl : k < s.size := by omega
      have hg := get_of s k hkl
      obtain ⟨c, hc⟩ : ∃ c, (s[k]'hkl) = c := ⟨_, rfl⟩
      rw [hc] at hg
      have HG := fun w => goesOn_any (s.extract (k + 1) s.size) w (by rw [size_eq, extract_drop, List.length_drop]; omega)
      rw [extract_drop] at HG
      rw [Nat.add_sub_cancel, ← hg] at er
      obtain ⟨g, hgo⟩ : ∃ g, goesOn (s.data.toList.drop (k + 1)) = g := ⟨_, rfl⟩
      rw [hgo] at HG er
      have HG := hid HG
      clear hgo hg
      cases attr with
      | false =>
        rw [if_neg (by rw [er]; simp)] at e
        rw [e]
        clear e er
        go_enter Tryz.func52, Tryz.ntmps52
        go_wp2_with fail
        refine HR.out.mono ?_
        rintro e w1 ⟨rfl, b1⟩
        have b2 := hid (b1.trans (((Below.refl w1.heap.size w1).alloc (Nat.le_refl _) (.cells #[.int .i64 v1, .int .i64 v2, .int .i64 v3, .int .i64 v4] 96)).mono b1.size))
        clear b1
        go_wp2_with fail
        refine (HN.out _).mono ?_
        rintro e w2 ⟨rfl, b3⟩
        have b4 := hid (b2.out.trans (b3.mono b2.out.size))
        clear b3
        go_wp2
        go_ret2
        exact ⟨rfl, b4.out⟩
      | true =>
        by_cases h59 : c.toNat = 59
        · rw [if_neg (by rw [er]; simp [h59])] at e
          rw [e]
          have t0 : ((c.toNat : Int) != 59) = false := by rw [h59]; rfl
          clear e er h59
          go_enter Tryz.func52, Tryz.ntmps52
          go_wp2_with fail
          refine HR.out.mono ?_
          rintro e w1 ⟨rfl, b1⟩
          have b2 := hid (b1.trans (((Below.refl w1.heap.size w1).alloc (Nat.le_refl _) (.cells #[.int .i64 v1, .int .i64 v2, .int .i64 v3, .int .i64 v4] 96)).mono b1.size))
          clear b1
          go_wp2_with fail
          refine (HN.out _).mono ?_
          rintro e w2 ⟨rfl, b3⟩
          have b4 := hid (b2.out.trans (b3.mono b2.out.size))
          clear b3
          go_wp2
          go_ret2
          exact ⟨rfl, b4.out⟩
        · have t0 : ((c.toNat : Int) != 59) = true := bne_iff_ne.2 (by omega)
          have er2 : refuses true s.data.toList = g := by rw [er]; simp [h59]
          rw [er2] at e
          clear er er2 h59
          cases g with
          | true =>
            rw [if_pos (.inr rfl)] at e
            rw [e]
            clear e
            go_enter Tryz.func52, Tryz.ntmps52
            go_wp2_with fail
            refine HR.out.mono ?_
            rintro e w1 ⟨rfl, b1⟩
            have b2 := hid (b1.trans (((Below.refl w1.heap.size w1).alloc (Nat.le_refl _) (.cells #[.int .i64 v1, .int .i64 v2, .int .i64 v3, .int .i64 v4] 96)).mono b1.size))
            clear b1
            go_wp2_with fail
            refine (HN.out _).mono ?_
            rintro e w2 ⟨rfl, b3⟩
            have b4 := hid (b2.out.trans (b3.mono b2.out.size))
            clear b3
            go_wp2_with fail
            refine (HG.out _).mono ?_
            rintro e w3 ⟨rfl, rfl⟩
            go_wp2
            go_ret2
            exact ⟨rfl, b4.out⟩
          | false =>
            rw [if_neg (by simp)] at e
            rw [e]
            clear e
            go_enter Tryz.func52, Tryz.ntmps52
            go_wp2_with fail
            refine HR.out.mono ?_
            rintro e w1 ⟨rfl, b1⟩
            have b2 := hid (b1.trans (((Below.refl w1.heap.size w1).alloc (Nat.le_refl _) (.cells #[.int .i64 v1, .int .i64 v2, .int .i64 v3, .int .i64 v4] 96)).mono b1.size))
            clear b1
            go_wp2_with fail
            refine (HN.out _).mono ?_
            rintro e w2 ⟨rfl, b3⟩
            have b4 := hid (b2.out.trans (b3.mono b2.out.size))
            clear b3
            go_wp2_with fail
            refine (HG.out _).mono ?_
            rintro e w3 ⟨rfl, rfl⟩
            go_wp2
            go_ret2
            exact ⟨rfl, b4.out⟩
  · have h1 := digs_le hd
    rw [readV_yes hd] at HR
    have e : refer attr s.data.toList = (encN (numZ (numV s.data.toList)).toNat, numW s.data.toList + semiW (s.data.toList.drop (numW s.data.toList))) := by unfold refer; rw [if_pos hd]
    obtain ⟨c, hc1, hc2, hc3⟩ := num_char (numV s.data.toList)
    rw [e, hc3]
    have HN : ∀ w, CtlTab w → Calls Tryz.prog 80 #[.int .i64 (min (numV s.data.toList : Int) 1114112)] w fun e w' => e = .returned (.int .i32 c) ∧ w = w' := fun w hT => by
      have := number_any (min (numV s.data.toList : Int) 1114112) w hT
      rw [numZ_min _ _ (by omega), hc1] at this
      exact this
    have HS := fun w => semicolon_any (s.extract (numW s.data.toList) s.size) w
    rw [extract_drop] at HS
    have HE := hid (enc_ok hc2)
    have hsm : semiW (s.data.toList.drop (numW s.data.toList)) ≤ 1 := by unfold semiW; split <;> omega
    obtain ⟨V, hV⟩ : ∃ V, min (numV s.data.toList : Int) 1114112 = V := ⟨_, rfl⟩
    obtain ⟨W, hW⟩ : ∃ W, numW s.data.toList = W := ⟨_, rfl⟩
    obtain ⟨D, hD⟩ : ∃ D, (digs s.data.toList).length = D := ⟨_, rfl⟩
    obtain ⟨M, hM⟩ : ∃ M, mostOf s.data.toList = M := ⟨_, rfl⟩
    rw [hV] at HR HN
    rw [hW] at HR HS h1 hsm ⊢
    rw [hD] at HR
    rw [hM] at HR
    obtain ⟨m, hm⟩ : ∃ m, semiW (s.data.toList.drop W) = m := ⟨_, rfl⟩
    rw [hm] at HS hsm ⊢
    have hWs : W ≤ s.size := by omega
    have HR := hid HR
    have HN := hid HN
    have HS := hid HS
    have HT := hid hT
    unfold numeralV at HR
    clear hV hW hD hM hm h1 hd e hc1 hc2 hc3 hT
    go_enter Tryz.func52, Tryz.ntmps52
    go_wp2_with fail
    refine HR.out.mono ?_
    rintro e w1 ⟨rfl, b1⟩
    have T1 := hid (ctl_below HT.out b1)
    go_wp2
    have c0 : (w1.alloc (.cells #[.int .i64 V, .int .i64 D, .int .i64 M, .int .i64 W] 96)).cell? ⟨w1.heap.size, 0, none⟩ = some (.int .i64 V) := by go_cell
    have c3 : (w1.alloc (.cells #[.int .i64 V, .int .i64 D, .int .i64 M, .int .i64 W] 96)).cell? ⟨w1.heap.size, 3, none⟩ = some (.int .i64 W) := by go_cell
    have T2 := hid (ctl_below T1.out ((Below.refl w1.heap.size w1).alloc (Nat.le_refl _) (.cells #[.int .i64 V, .int .i64 D, .int .i64 M, .int .i64 W] 96)))
    have b2 := hid (b1.trans (((Below.refl w1.heap.size w1).alloc (Nat.le_refl _) (.cells #[.int .i64 V, .int .i64 D, .int .i64 M, .int .i64 W] 96)).mono b1.size))
    have hsum : IntKind.i64.wrap ((W : Int) + (m : Int)) = (W : Int) + m := by simp (disch := omega) only [IntWalk.i64_in]
    clear b1 T1
    generalize w1.alloc (.cells #[.int .i64 V, .int .i64 D, .int .i64 M, .int .i64 W] 96) = W1 at *
    go_quiet ((first | (go_at_call 80; exact quiet_same (HN.out _ (ctl_drew T2.out _))) | (go_at_call 81; exact quiet_same (HS.out _))))
    go_wp2
    go_ret2
    exact ⟨by rw [← HE.out]; exact congrArg (fun x : Int => Ending.returned (.tuple #[.string (Utf8.encode c), .int .i64 x])) (Int.natCast_add W m).symm, bel_drewN b2.out nq⟩
end Go.Proofs.YtgldgdopabmefaaGreatDoor
namespace Go.Proofs.YtgldgdopabmefaaGreatDoor
open Go.RowKit Go.Lib Ent
set_option maxRecDepth 100000
set_option linter.unusedVariables false

def EntW (w : World) : Prop := CtlTab w ∧ MaxCell w
theorem ent_below {w w' : World} (h : EntW w) (hb : Below w.heap.size w w') : EntW w' := ⟨ctl_below h.1 hb, max_below h.2 hb⟩
theorem cut_any (s : ByteArray) (w : World) (hs : s.size ≤ 4000000) (hm : MaxCell w) :
    Calls Tryz.prog 51 #[.string s, .string ⟨#[38]⟩] w fun e w' => e = .returned (.tuple #[.string ⟨(cut s.data.toList [38]).1.toArray⟩, .string ⟨(cut s.data.toList [38]).2.1.toArray⟩, .bool (cut s.data.toList [38]).2.2]) ∧ Below w.heap.size w w' := by
  obtain ⟨m, hm⟩ := hm
  refine (Tryz.strings_Cut s ⟨#[38]⟩ m w (by omega) hm).mono ?_
  rintro e w' ⟨rfl, n, rfl⟩
  exact ⟨rfl, bel_drewN (Below.refl _ _) n⟩
/-- What is written, and what is left: up to the next '&', and behind it. -/
def DecI (attr : Bool) (L acc p q : List UInt8) (m : Bool) : Prop := acc ++ (p ++ if m = true then Ent.decode attr (38 :: q) else []) = Ent.decode attr L
/-- Cut at the first '&'. -/
theorem dec_cut (attr : Bool) (L acc l : List UInt8) (h : acc ++ Ent.decode attr l = Ent.decode attr L) :
    DecI attr L acc (cut l [38]).1 (cut l [38]).2.1 (cut l [38]).2.2 ∧ (cut l [38]).1.length ≤ l.length ∧ (cut l [38]).2.1.length ≤ l.length ∧ ((cut l [38]).2.2 = true → (cut l [38]).2.1.length + 1 ≤ l.length) := by
  rcases cut_amp l with ⟨p, q, h1, h2, h3⟩ | ⟨h1, h2⟩
  · rw [h1]
    refine ⟨?_, ?_⟩
    · unfold DecI
      rw [← h, h2, Ent.decode_append attr p _ h3, if_pos rfl]
    · rw [h2]
      simp
      omega
  · rw [h1]
    refine ⟨?_, by simp⟩
    unfold DecI
    have := Ent.decode_append attr l [] h2
    rw [List.append_nil, Ent.decode_nil] at this
    rw [← h, this]
    simp
theorem dec_step {attr : Bool} {L acc p q : List UInt8} (h : DecI attr L acc p q true) : (acc ++ p ++ (refer attr q).1) ++ Ent.decode attr (q.drop (refer attr q).2) = Ent.decode attr L := by
  unfold DecI at h
  rw [if_pos rfl, Ent.decode_amp] at h
  rw [← h]
  simp only [List.append_assoc]
theorem dec_len {attr : Bool} {L acc p q : List UInt8} {m : Bool} (h : DecI attr L acc p q m) : acc.length + p.length ≤ 7 * L.length := by
  have h1 := Ent.decode_le attr L
  unfold DecI at h
  rw [← h] at h1
  simp only [List.length_append] at h1
  omega
theorem strCells_eq (s : ByteArray) : strCells s = byteCells s.data.toList := rfl
theorem ref_bytes (l : List UInt8) : (⟨l.toArray⟩ : ByteArray).data.toList = l := rfl

set_option maxHeartbeats 2000000 in
theorem decode_any (s : ByteArray) (attr : Bool) (w : World) (hs : s.size ≤ 500000) (hT : EntW w) :
    Calls Tryz.prog 27 #[.string s, .bool attr] w fun e w' => e = .returned (.string ⟨(Ent.decode attr s.data.toList).toArray⟩) ∧ Below w.heap.size w w' := by
  have HT := hid hT
  have hsl := size_list s
  obtain ⟨L, hL⟩ : ∃ L, s.data.toList = L := ⟨_, rfl⟩
  have HC := hid (fun w hm => cut_any s w (by omega) hm)
  rw [hL] at HC hsl
  have h0 := dec_cut attr L [] L rfl
  rw [hL]
  obtain ⟨p0, q0, m0, hc0⟩ : ∃ p q m, cut L [38] = (p, q, m) := ⟨_, _, _, rfl⟩
  rw [hc0] at HC h0
  simp only at HC h0
  have H0 := hid h0
  clear hT hc0 h0 hL
  go_enter Tryz.func27, Tryz.ntmps27
  go_wp2_with fail
  refine (Tryz.Builder_Grow_fresh w.heap.size w.heap.size s.size _ (Nat.le_refl _) (heap_alloc_new w _) (by simp) (by omega)).mono ?_
  rintro e W1 ⟨rfl, hBA, hb1⟩
  have hbel := ((Below.refl w.heap.size w).alloc (Nat.le_refl _) (.cells #[.pointer none, .slice none 0 0] 66)).trans hb1
  have hIs : IsBuilderF 66 5 w.heap.size w.heap.size (byteCells []) W1 := IsBuilderF.of (.inr hBA)
  clear hb1 hBA
  go_wp2_with fail
  refine (HC.out _ (ent_below HT.out hbel).2).mono ?_
  rintro e W2 ⟨rfl, hb2⟩
  have HB := hid (hbel.trans (hb2.mono hbel.size))
  have HI := hid (ebuilder_in hIs hb2)
  clear hbel hIs hb2
  go_wp2
  go_loopg [6, 7, 8] (s.size + 1) (fun g pv qv mv wr => ∃ (acc p q : List UInt8) (m : Bool), pv = .string ⟨p.toArray⟩ ∧ qv = .string ⟨q.toArray⟩ ∧ mv = .bool m ∧ Hid (DecI attr L acc p q m) ∧ q.length ≤ s.size ∧ (m = true → q.length + 1 ≤ g) ∧ IsBuilderF 66 5 w.heap.size w.heap.size (byteCells acc) wr ∧ Below w.heap.size w wr)
  case atStart => exact ⟨[], p0, q0, m0, rfl, rfl, rfl, hid H0.out.1, by have := H0.out.2.2.1; omega, fun _ => by have := H0.out.2.2.1; omega, HI.out, HB.out⟩
  case round =>
    obtain ⟨acc, p, q, m, rfl, rfl, rfl, hD, hq, hg, hI, hbw⟩ := hrel
    have hlen := dec_len hD.out
    have hszr := hbw.size
    obtain ⟨P, hP⟩ : ∃ P : ByteArray, P = ⟨p.toArray⟩ := ⟨_, rfl⟩
    have hPs : P.size = p.length := by rw [hP]; simp [ByteArray.size]
    have hPl : P.data.toList = p := by rw [hP]
    cases m with
    | true =>
      replace hg := hg rfl
      obtain ⟨R, hR⟩ : ∃ R : ByteArray, R = ⟨q.toArray⟩ := ⟨_, rfl⟩
      have hRs : R.size = q.length := by rw [hR]; simp [ByteArray.size]
      have hRl : R.data.toList = q := by rw [hR]
      rw [← hP, ← hR]
      have HRf := reference_any R attr wr (by omega) (ent_below HT.out hbw).1
      rw [hRl] at HRf
      have hst := dec_step hD.out
      have hrl := refer_le attr q
      obtain ⟨i, n, hin⟩ : ∃ i n, refer attr q = (i, n) := ⟨_, _, rfl⟩
      rw [hin] at HRf hst hrl
      simp only at HRf hst hrl
      obtain ⟨hr1, hr2, _⟩ := hrl
      obtain ⟨I, hI0⟩ : ∃ I : ByteArray, I = ⟨i.toArray⟩ := ⟨_, rfl⟩
      have hIs : I.size = i.length := by rw [hI0]; simp [ByteArray.size]
      have hIl : I.data.toList = i := by rw [hI0]
      rw [← hI0] at HRf
      have hnR : n ≤ R.size := by omega
      have hxl : (R.extract n R.size).data.toList = q.drop n := by rw [extract_drop, hRl]
      have HCt := fun w hm => cut_any (R.extract n R.size) w (by rw [size_eq, hxl, List.length_drop]; omega) hm
      rw [hxl] at HCt
      have hdc := dec_cut attr L (acc ++ p ++ i) (q.drop n) hst
      rw [List.length_drop] at hdc
      obtain ⟨p', q', m', hc'⟩ : ∃ x y z, cut (q.drop n) [38] = (x, y, z) := ⟨_, _, _, rfl⟩
      rw [hc'] at HCt hdc
      simp only at HCt hdc
      have HRf := hid HRf
      have HCt := hid HCt
      have Hdc := hid hdc
      have hs1 : (byteCells acc).length + P.size ≤ 140737488355328 := by rw [byteCells_length]; omega
      have hs2 : (byteCells acc ++ strCells P).length + I.size ≤ 140737488355328 := by rw [List.length_append, byteCells_length, strCells_length]; omega
      have hbc : byteCells acc ++ strCells P ++ strCells I = byteCells (acc ++ p ++ i) := by rw [strCells_eq, strCells_eq, hPl, hIl, byteCells_append, byteCells_append]
      clear hP hPs hPl hR hRs hRl hin hI0 hIs hIl hxl hst hc' hdc hlen hD hr1 hr2
      go_wp2_with fail
      refine HRf.out.mono ?_
      rintro e w1 ⟨rfl, b1⟩
      have hI1 := ebuilder_in hI b1
      have hb1 := hbw.trans (b1.mono hszr)
      clear hI b1 hbw
      go_wp2_with fail
      refine (Tryz.Builder_WriteString_k w.heap.size w.heap.size (byteCells acc) P w1 hI1 hs1 hb1.size).mono ?_
      rintro e w2 ⟨rfl, hI2, b2, _⟩
      have hb2 := hb1.trans b2
      clear hI1 b2 hb1
      go_wp2_with fail
      refine (Tryz.Builder_WriteString_k w.heap.size w.heap.size _ I w2 (.inr hI2) hs2 hb2.size).mono ?_
      rintro e w3 ⟨rfl, hI3, b3, _⟩
      rw [hbc] at hI3
      have hb3 := hb2.trans b3
      clear hI2 b3 hb2
      go_wp2_with fail
      refine (HCt.out _ (ent_below HT.out hb3).2).mono ?_
      rintro e w4 ⟨rfl, b4⟩
      have HI4 := hid (ebuilder_below hI3 b4)
      have HB4 := hid (hb3.trans (b4.mono hb3.size))
      clear hI3 b4 hb3
      go_wp2
      go_roundg (gk - 1)
      case measure => omega
      case rel => exact ⟨acc ++ p ++ i, p', q', m', rfl, rfl, rfl, hid Hdc.out.1, by have := Hdc.out.2.2.1; omega, fun h => by have := Hdc.out.2.2.2 h; omega, .inr HI4.out, HB4.out⟩
    | false =>
      rw [← hP]
      have hs1 : (byteCells acc).length + P.size ≤ 140737488355328 := by rw [byteCells_length]; omega
      have hbc : byteCells acc ++ strCells P = byteCells (acc ++ p) := by rw [strCells_eq, hPl, byteCells_append]
      have HE := hid (show acc ++ p = Ent.decode attr L by have := hD.out; unfold DecI at this; simpa using this)
      clear hP hPs hPl hlen hD hg
      go_wp2_with fail
      refine (Tryz.Builder_WriteString_k w.heap.size w.heap.size (byteCells acc) P wr hI hs1 hszr).mono ?_
      rintro e w2 ⟨rfl, hI2, b2, _⟩
      rw [hbc] at hI2
      have hb2 := hbw.trans b2
      clear hI b2 hbw
      go_wp2_with fail
      refine (Tryz.Builder_String_any_k w.heap.size w.heap.size (acc ++ p) w2 (.inr hI2) hb2.size).mono ?_
      rintro e w3 ⟨rfl, _, b3, _⟩
      have hb3 := hid (hb2.trans b3)
      clear hI2 b3 hb2
      go_wp2
      go_ret
      exact ⟨congrArg (fun x : List UInt8 => Ending.returned (.string ⟨x.toArray⟩)) HE.out, hb3.out⟩
end Go.Proofs.YtgldgdopabmefaaGreatDoor
