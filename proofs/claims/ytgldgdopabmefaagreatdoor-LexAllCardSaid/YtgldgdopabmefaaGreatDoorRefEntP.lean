/- Walks over the reference of layer 3: digits, a number behind '&#'. Walks over the reference of layer 3: the reference that a text begins with. Walks over the reference of layer 3: Decode. -/
import Derived.Test.YtgldgdopabmefaaGreatDoorRefNamed
import Derived.Test.YtgldgdopabmefaaGreatDoorRefHex
import Derived.Test.YtgldgdopabmefaaGreatDoorMeanText
import Derived.Deep.LoopGhost
namespace Go.Proofs.YtgldgdopabmefaaGreatDoor
open Go.RowKit Go.Lib Ent
set_option maxRecDepth 100000
set_option linter.unusedVariables false

/-- Behind i digits. -/
def RInv (l : List UInt8) (b i : Nat) (V : Int) : Prop := i ≤ (run b l).length ∧ V = min (valL b (l.take i) : Int) 100000000
theorem RInv.le {l : List UInt8} {b i : Nat} {V : Int} (hi : RInv l b i V) : i ≤ l.length ∧ 0 ≤ V ∧ V ≤ 100000000 := by
  have := run_le b l
  obtain ⟨h1, h2⟩ := hi
  omega
theorem RInv.start (l : List UInt8) (b : Nat) : RInv l b 0 0 := ⟨by omega, by rw [List.take_zero]; rfl⟩
theorem RInv.step {l : List UInt8} {b i : Nat} {V : Int} (hi : RInv l b i V) (hlt : i < l.length) (hb : 1 ≤ b) (h1 : 0 ≤ hexN (U8.B l i)) (h2 : hexN (U8.B l i) < b) : RInv l b (i + 1) (min (V * b + hexN (U8.B l i)) 100000000) := by
  have hB : U8.B l i = (l[i]).toNat := U8.B_eq (List.getElem?_eq_getElem hlt)
  rw [hB] at h1 h2 ⊢
  have hr := (run_step hlt hi.1).1 (decide_eq_true ⟨h1, h2⟩)
  refine ⟨hr, ?_⟩
  rw [val_step b _ i hlt, hi.2]
  have := min_step (valL b (l.take i)) 100000000 b (hexN (l[i]).toNat) (by omega) (by omega) (by omega) h1
  rw [this, Int.natCast_add, Int.natCast_mul, Int.toNat_of_nonneg h1]
theorem RInv.stop {l : List UInt8} {b i : Nat} {V : Int} (hi : RInv l b i V) (hs : l.length ≤ i ∨ ¬ (0 ≤ hexN (U8.B l i) ∧ hexN (U8.B l i) < b)) : (run b l).length = i ∧ min (valL b (run b l) : Int) 100000000 = V := by
  have h1 : (run b l).length = i := by
    rcases Nat.lt_or_ge i l.length with hlt | hge
    · have hB : U8.B l i = (l[i]).toNat := U8.B_eq (List.getElem?_eq_getElem hlt)
      rw [hB] at hs
      exact (run_step hlt hi.1).2 (decide_eq_false (hs.resolve_left (by omega)))
    · have := run_le b l
      have := hi.1
      omega
  refine ⟨h1, ?_⟩
  rw [hi.2]
  conv => lhs; rw [run_take b l, h1]
def digitsV (b : Nat) (l : List UInt8) : Ending := .returned (.tuple #[.int .i64 (run b l).length, .int .i64 (min (valL b (run b l) : Int) 100000000)])
theorem digitsV_eq {b i : Nat} {V : Int} {l : List UInt8} (h : (run b l).length = i ∧ min (valL b (run b l) : Int) 100000000 = V) : digitsV b l = .returned (.tuple #[.int .i64 i, .int .i64 V]) := by unfold digitsV; rw [h.1, h.2]
set_option maxHeartbeats 1000000 in
theorem rdigits10_any (s : ByteArray) (w : World) (hs : s.size ≤ 1000000) :
    Calls Tryz.prog 94 #[.string s, .int .i64 10] w fun e w' => e = digitsV 10 s.data.toList ∧ w = w' := by
  have hsl := size_list s
  go_enter Tryz.func94, Tryz.ntmps94
  go_wp2
  go_loopg [6, 7] s.size (fun g n i wx => ∃ (k : Nat) (V : Int), k + g = s.size ∧ i = .int .i64 k ∧ n = .int .i64 V ∧ Hid (RInv s.data.toList 10 k V) ∧ 0 ≤ V ∧ V ≤ 100000000 ∧ wx = w)
  case atStart => exact ⟨0, 0, by omega, rfl, rfl, hid (RInv.start _ _), by omega, by omega, rfl⟩
  case round =>
    obtain ⟨k, V, hk, rfl, rfl, hI, hV0, hV1, rfl⟩ := hrel
    by_cases hlt : k < s.size
    · have hg := get_of s k hlt
      obtain ⟨c, hc⟩ : ∃ c, (s[k]'hlt) = c := ⟨_, rfl⟩
      rw [hc] at hg
      have HX := fun w => rhex_any c.toNat (UInt8.toNat_lt _) w
      have hb := hexN_lt (U8.B s.data.toList k)
      have HSt := hI.out.step (by rw [hsl]; exact hlt) (by omega)
      have HSp := hI.out.stop (i := k)
      rw [← hg] at hb HSt HSp
      obtain ⟨x, hx⟩ : ∃ x, hexN c.toNat = x := ⟨_, rfl⟩
      rw [hx] at HX hb HSt HSp
      have HX2 := hid HX
      clear hx HX hg hI
      by_cases hdg : 0 ≤ x ∧ x < 10
      · have HN : Hid (RInv s.data.toList 10 (k + 1) (min (V * 10 + x) 100000000)) := hid (HSt hdg.1 hdg.2)
        obtain ⟨g1, g2⟩ := hdg
        have d1 : decide (x < 0) = false := decide_eq_false (by omega)
        have d2 : decide ((10 : Int) ≤ x) = false := decide_eq_false (by omega)
        clear HSt HSp hb
        go_wp2_with (go_at_call 110; refine (HX2.out _).mono ?_; rintro e w' ⟨rfl, rfl⟩)
        go_roundg (s.size - (k + 1))
        case measure => omega
        case rel => exact ⟨k + 1, _, by omega, by go_num, rfl, HN, by omega, by omega, rfl⟩
      · have HE := hid (digitsV_eq (HSp (.inr hdg)))
        clear HSt HSp
        rcases (show x < 0 ∨ (0 ≤ x ∧ 10 ≤ x) by omega) with g1 | ⟨g1, g2⟩
        · have d1 : decide (x < 0) = true := decide_eq_true (by omega)
          clear hdg hb
          go_wp2_with (go_at_call 110; refine (HX2.out _).mono ?_; rintro e w' ⟨rfl, rfl⟩)
          go_ret2
          exact ⟨HE.out.symm, rfl⟩
        · have d1 : decide (x < 0) = false := decide_eq_false (by omega)
          have d2 : decide ((10 : Int) ≤ x) = true := decide_eq_true (by omega)
          clear hdg hb
          go_wp2_with (go_at_call 110; refine (HX2.out _).mono ?_; rintro e w' ⟨rfl, rfl⟩)
          go_ret2
          exact ⟨HE.out.symm, rfl⟩
    · have HE := hid (digitsV_eq (hI.out.stop (.inl (by rw [hsl]; omega))))
      have hd : decide (k < s.size) = false := decide_eq_false hlt
      clear hI
      go_wp2
      go_ret2
      exact ⟨HE.out.symm, rfl⟩
set_option maxHeartbeats 1000000 in
theorem rdigits16_any (s : ByteArray) (w : World) (hs : s.size ≤ 1000000) :
    Calls Tryz.prog 94 #[.string s, .int .i64 16] w fun e w' => e = digitsV 16 s.data.toList ∧ w = w' := by
  have hsl := size_list s
  go_enter Tryz.func94, Tryz.ntmps94
  go_wp2
  go_loopg [6, 7] s.size (fun g n i wx => ∃ (k : Nat) (V : Int), k + g = s.size ∧ i = .int .i64 k ∧ n = .int .i64 V ∧ Hid (RInv s.data.toList 16 k V) ∧ 0 ≤ V ∧ V ≤ 100000000 ∧ wx = w)
  case atStart => exact ⟨0, 0, by omega, rfl, rfl, hid (RInv.start _ _), by omega, by omega, rfl⟩
  case round =>
    obtain ⟨k, V, hk, rfl, rfl, hI, hV0, hV1, rfl⟩ := hrel
    by_cases hlt : k < s.size
    · have hg := get_of s k hlt
      obtain ⟨c, hc⟩ : ∃ c, (s[k]'hlt) = c := ⟨_, rfl⟩
      rw [hc] at hg
      have HX := fun w => rhex_any c.toNat (UInt8.toNat_lt _) w
      have hb := hexN_lt (U8.B s.data.toList k)
      have HSt := hI.out.step (by rw [hsl]; exact hlt) (by omega)
      have HSp := hI.out.stop (i := k)
      rw [← hg] at hb HSt HSp
      obtain ⟨x, hx⟩ : ∃ x, hexN c.toNat = x := ⟨_, rfl⟩
      rw [hx] at HX hb HSt HSp
      have HX2 := hid HX
      clear hx HX hg hI
      by_cases hdg : 0 ≤ x ∧ x < 16
      · have HN : Hid (RInv s.data.toList 16 (k + 1) (min (V * 16 + x) 100000000)) := hid (HSt hdg.1 hdg.2)
        obtain ⟨g1, g2⟩ := hdg
        have d1 : decide (x < 0) = false := decide_eq_false (by omega)
        have d2 : decide ((16 : Int) ≤ x) = false := decide_eq_false (by omega)
        clear HSt HSp hb
        go_wp2_with (go_at_call 110; refine (HX2.out _).mono ?_; rintro e w' ⟨rfl, rfl⟩)
        go_roundg (s.size - (k + 1))
        case measure => omega
        case rel => exact ⟨k + 1, _, by omega, by go_num, rfl, HN, by omega, by omega, rfl⟩
      · have HE := hid (digitsV_eq (HSp (.inr hdg)))
        clear HSt HSp
        rcases (show x < 0 ∨ (0 ≤ x ∧ 16 ≤ x) by omega) with g1 | ⟨g1, g2⟩
        · have d1 : decide (x < 0) = true := decide_eq_true (by omega)
          clear hdg hb
          go_wp2_with (go_at_call 110; refine (HX2.out _).mono ?_; rintro e w' ⟨rfl, rfl⟩)
          go_ret2
          exact ⟨HE.out.symm, rfl⟩
        · have d1 : decide (x < 0) = false := decide_eq_false (by omega)
          have d2 : decide ((16 : Int) ≤ x) = true := decide_eq_true (by omega)
          clear hdg hb
          go_wp2_with (go_at_call 110; refine (HX2.out _).mono ?_; rintro e w' ⟨rfl, rfl⟩)
          go_ret2
          exact ⟨HE.out.symm, rfl⟩
    · have HE := hid (digitsV_eq (hI.out.stop (.inl (by rw [hsl]; omega))))
      have hd : decide (k < s.size) = false := decide_eq_false hlt
      clear hI
      go_wp2
      go_ret2
      exact ⟨HE.out.symm, rfl⟩

def numericV (l : List UInt8) : Nat × Nat × Int :=
  if 0 < l.length ∧ U8.B l 0 = 38 ∧ digs (l.drop 1) ≠ [] then (1 + numW (l.drop 1), (digs (l.drop 1)).length, min (numV (l.drop 1) : Int) 100000000) else (0, 0, 0)
def numericE (l : List UInt8) : Ending := .returned (.tuple #[.int .i64 (numericV l).1, .int .i64 (numericV l).2.1, .int .i64 (numericV l).2.2])
theorem numeric_yes {l : List UInt8} {b h i : Nat} {V : Int} (h0 : 0 < l.length ∧ U8.B l 0 = 38) (h1 : 1 < l.length ∧ U8.B l 1 = 35) (hb : baseOf (l.drop 1) = b) (hh : headOf (l.drop 1) = h) (hr : (run b (l.drop (1 + h))).length = i ∧ min (valL b (run b (l.drop (1 + h))) : Int) 100000000 = V) (hi : i ≠ 0) :
    numericE l = .returned (.tuple #[.int .i64 ((1 + h : Nat) + (i : Int)), .int .i64 i, .int .i64 V]) := by
  have hd : digs (l.drop 1) = run b (l.drop (1 + h)) := by
    unfold digs
    rw [if_pos (by rw [List.length_drop, U8.B_drop]; exact ⟨by omega, h1.2⟩), hb, hh, List.drop_drop]
  have hv : numericV l = (1 + h + i, i, V) := by
    unfold numericV numV numW
    rw [if_pos ⟨h0.1, h0.2, by rw [hd]; intro e; rw [e] at hr; simp at hr; omega⟩, hd, hb, hh, hr.1, hr.2, Nat.add_assoc]
  unfold numericE
  rw [hv]
  simp only [Int.natCast_add]
theorem numeric_zero {l : List UInt8} {b h : Nat} (hb : baseOf (l.drop 1) = b) (hh : headOf (l.drop 1) = h) (hr : (run b (l.drop (1 + h))).length = 0) :
    numericE l = .returned (.tuple #[.int .i64 0, .int .i64 0, .int .i64 0]) := by
  have hd : digs (l.drop 1) = [] := by
    unfold digs
    split
    · rw [hb, hh, List.drop_drop]; exact List.length_eq_zero_iff.1 hr
    · rfl
  unfold numericE numericV
  rw [if_neg (fun h => h.2.2 hd)]
  rfl
theorem amp_pre (l : List UInt8) : ([38, 35] : List UInt8).isPrefixOf l = decide (1 < l.length ∧ U8.B l 0 = 38 ∧ U8.B l 1 = 35) := by
  match l with
  | [] => simp
  | [a] => show ((38 : UInt8) == a && false) = _; simp
  | a :: c :: r =>
    have e0 : U8.B (a :: c :: r) 0 = a.toNat := rfl
    have e1 : U8.B (a :: c :: r) 1 = c.toNat := rfl
    rw [e0, e1, Bool.eq_iff_iff]
    simp only [List.isPrefixOf_cons_cons, List.isPrefixOf_nil_left, Bool.and_true, Bool.and_eq_true, beq_iff_eq, decide_eq_true_eq, List.length_cons]
    exact ⟨fun ⟨x, y⟩ => ⟨by omega, by rw [← x]; rfl, by rw [← y]; rfl⟩, fun ⟨_, x, y⟩ => ⟨(UInt8.toNat_inj.1 x).symm, (UInt8.toNat_inj.1 y).symm⟩⟩
set_option maxHeartbeats 1000000 in
theorem rnumeric_any (s : ByteArray) (w : World) (hs : s.size ≤ 1000000) :
    Calls Tryz.prog 68 #[.string s] w fun e w' => e = numericE s.data.toList ∧ w = w' := by
  have HP := fun w => rbegins_any s ⟨#[38, 35]⟩ w hs (by decide)
  rw [show (⟨#[38, 35]⟩ : ByteArray).data.toList = [38, 35] from rfl, amp_pre] at HP
  have hsl := size_list s
  by_cases h : 1 < s.data.toList.length ∧ U8.B s.data.toList 0 = 38 ∧ U8.B s.data.toList 1 = 35
  · rw [decide_eq_true h] at HP
    have H0 : Hid (0 < s.data.toList.length ∧ U8.B s.data.toList 0 = 38) := hid ⟨by omega, h.2.1⟩
    have H1 : Hid (1 < s.data.toList.length ∧ U8.B s.data.toList 1 = 35) := hid ⟨h.1, h.2.2⟩
    have HP := hid HP
    have hs2 : 2 ≤ s.size := by omega
    clear h
    by_cases h1 : 2 < s.size
    · have hg1 := get_of s 2 h1
      obtain ⟨c1, hc1⟩ : ∃ c, (s[2]'h1) = c := ⟨_, rfl⟩
      rw [hc1] at hg1
      have hd1 : decide ((2 : Int) < (s.size : Int)) = true := decide_eq_true (by omega)
      by_cases hx1 : c1.toNat = 120
      · have hb : baseOf (s.data.toList.drop 1) = 16 ∧ headOf (s.data.toList.drop 1) = 2 := by
          have hx : isX (s.data.toList.drop 1) = true := by
            unfold isX
            rw [List.length_drop, show U8.B (s.data.toList.drop 1) 1 = U8.B s.data.toList 2 from U8.B_drop _ _ _]
            exact decide_eq_true (by omega)
          unfold baseOf headOf
          rw [hx]
          exact ⟨rfl, rfl⟩
        have HB := hid hb
        have e1 : ((c1.toNat : Int) == 120) = true := by rw [hx1]; rfl
        clear hb hx1 hg1
        have HD := fun w => rdigits16_any (s.extract 3 s.size) w (by rw [size_eq, extract_drop, List.length_drop]; omega)
        rw [extract_drop] at HD
        obtain ⟨m, hm⟩ : ∃ m, (run 16 (s.data.toList.drop 3)).length = m := ⟨_, rfl⟩
        obtain ⟨V, hV⟩ : ∃ V, min (valL 16 (run 16 (s.data.toList.drop 3)) : Int) 100000000 = V := ⟨_, rfl⟩
        rw [digitsV_eq ⟨hm, hV⟩] at HD
        have hml : m ≤ 1000000 := by have := run_le 16 (s.data.toList.drop 3); rw [List.length_drop] at this; omega
        have HD := hid HD
        have hk : 3 ≤ s.size := by omega
        by_cases hm0 : m = 0
        · have HE := hid (numeric_zero HB.out.1 HB.out.2 (hm.trans hm0))
          subst hm0
          clear hm hV
          go_enter Tryz.func68, Tryz.ntmps68
          go_wp2_with fail
          refine (HP.out _).mono ?_
          rintro e w' ⟨rfl, rfl⟩
          go_wp2_with fail
          refine (HD.out _).mono ?_
          rintro e w' ⟨rfl, rfl⟩
          go_wp2
          go_ret3
          exact ⟨HE.out.symm, rfl⟩
        · have HE := hid (numeric_yes H0.out H1.out HB.out.1 HB.out.2 ⟨hm, hV⟩ hm0)
          have t0 : ((m : Int) == 0) = false := beq_eq_false_iff_ne.2 (by omega)
          clear hm hV hm0
          go_enter Tryz.func68, Tryz.ntmps68
          go_wp2_with fail
          refine (HP.out _).mono ?_
          rintro e w' ⟨rfl, rfl⟩
          go_wp2_with fail
          refine (HD.out _).mono ?_
          rintro e w' ⟨rfl, rfl⟩
          go_wp2
          go_ret3
          exact ⟨HE.out.symm, rfl⟩
      · have e1 : ((c1.toNat : Int) == 120) = false := beq_eq_false_iff_ne.2 (by omega)
        by_cases hx2 : c1.toNat = 88
        · have hb : baseOf (s.data.toList.drop 1) = 16 ∧ headOf (s.data.toList.drop 1) = 2 := by
            have hx : isX (s.data.toList.drop 1) = true := by
              unfold isX
              rw [List.length_drop, show U8.B (s.data.toList.drop 1) 1 = U8.B s.data.toList 2 from U8.B_drop _ _ _]
              exact decide_eq_true (by omega)
            unfold baseOf headOf
            rw [hx]
            exact ⟨rfl, rfl⟩
          have HB := hid hb
          have e2 : ((c1.toNat : Int) == 88) = true := by rw [hx2]; rfl
          clear hb hx1 hx2 hg1
          have HD := fun w => rdigits16_any (s.extract 3 s.size) w (by rw [size_eq, extract_drop, List.length_drop]; omega)
          rw [extract_drop] at HD
          obtain ⟨m, hm⟩ : ∃ m, (run 16 (s.data.toList.drop 3)).length = m := ⟨_, rfl⟩
          obtain ⟨V, hV⟩ : ∃ V, min (valL 16 (run 16 (s.data.toList.drop 3)) : Int) 100000000 = V := ⟨_, rfl⟩
          rw [digitsV_eq ⟨hm, hV⟩] at HD
          have hml : m ≤ 1000000 := by have := run_le 16 (s.data.toList.drop 3); rw [List.length_drop] at this; omega
          have HD := hid HD
          have hk : 3 ≤ s.size := by omega
          by_cases hm0 : m = 0
          · have HE := hid (numeric_zero HB.out.1 HB.out.2 (hm.trans hm0))
            subst hm0
            clear hm hV
            go_enter Tryz.func68, Tryz.ntmps68
            go_wp2_with fail
            refine (HP.out _).mono ?_
            rintro e w' ⟨rfl, rfl⟩
            go_wp2_with fail
            refine (HD.out _).mono ?_
            rintro e w' ⟨rfl, rfl⟩
            go_wp2
            go_ret3
            exact ⟨HE.out.symm, rfl⟩
          · have HE := hid (numeric_yes H0.out H1.out HB.out.1 HB.out.2 ⟨hm, hV⟩ hm0)
            have t0 : ((m : Int) == 0) = false := beq_eq_false_iff_ne.2 (by omega)
            clear hm hV hm0
            go_enter Tryz.func68, Tryz.ntmps68
            go_wp2_with fail
            refine (HP.out _).mono ?_
            rintro e w' ⟨rfl, rfl⟩
            go_wp2_with fail
            refine (HD.out _).mono ?_
            rintro e w' ⟨rfl, rfl⟩
            go_wp2
            go_ret3
            exact ⟨HE.out.symm, rfl⟩
        · have hb : baseOf (s.data.toList.drop 1) = 10 ∧ headOf (s.data.toList.drop 1) = 1 := by
            have hx : isX (s.data.toList.drop 1) = false := by
              unfold isX
              rw [List.length_drop, show U8.B (s.data.toList.drop 1) 1 = U8.B s.data.toList 2 from U8.B_drop _ _ _]
              exact decide_eq_false (by omega)
            unfold baseOf headOf
            rw [hx]
            exact ⟨rfl, rfl⟩
          have HB := hid hb
          have e2 : ((c1.toNat : Int) == 88) = false := beq_eq_false_iff_ne.2 (by omega)
          clear hb hx1 hx2 hg1
          have HD := fun w => rdigits10_any (s.extract 2 s.size) w (by rw [size_eq, extract_drop, List.length_drop]; omega)
          rw [extract_drop] at HD
          obtain ⟨m, hm⟩ : ∃ m, (run 10 (s.data.toList.drop 2)).length = m := ⟨_, rfl⟩
          obtain ⟨V, hV⟩ : ∃ V, min (valL 10 (run 10 (s.data.toList.drop 2)) : Int) 100000000 = V := ⟨_, rfl⟩
          rw [digitsV_eq ⟨hm, hV⟩] at HD
          have hml : m ≤ 1000000 := by have := run_le 10 (s.data.toList.drop 2); rw [List.length_drop] at this; omega
          have HD := hid HD
          have hk : 2 ≤ s.size := by omega
          by_cases hm0 : m = 0
          · have HE := hid (numeric_zero HB.out.1 HB.out.2 (hm.trans hm0))
            subst hm0
            clear hm hV
            go_enter Tryz.func68, Tryz.ntmps68
            go_wp2_with fail
            refine (HP.out _).mono ?_
            rintro e w' ⟨rfl, rfl⟩
            go_wp2_with fail
            refine (HD.out _).mono ?_
            rintro e w' ⟨rfl, rfl⟩
            go_wp2
            go_ret3
            exact ⟨HE.out.symm, rfl⟩
          · have HE := hid (numeric_yes H0.out H1.out HB.out.1 HB.out.2 ⟨hm, hV⟩ hm0)
            have t0 : ((m : Int) == 0) = false := beq_eq_false_iff_ne.2 (by omega)
            clear hm hV hm0
            go_enter Tryz.func68, Tryz.ntmps68
            go_wp2_with fail
            refine (HP.out _).mono ?_
            rintro e w' ⟨rfl, rfl⟩
            go_wp2_with fail
            refine (HD.out _).mono ?_
            rintro e w' ⟨rfl, rfl⟩
            go_wp2
            go_ret3
            exact ⟨HE.out.symm, rfl⟩
    · have hb : baseOf (s.data.toList.drop 1) = 10 ∧ headOf (s.data.toList.drop 1) = 1 := by
        have hx : isX (s.data.toList.drop 1) = false := by
          unfold isX
          rw [List.length_drop, show U8.B (s.data.toList.drop 1) 1 = U8.B s.data.toList 2 from U8.B_drop _ _ _]
          exact decide_eq_false (by omega)
        unfold baseOf headOf
        rw [hx]
        exact ⟨rfl, rfl⟩
      have HB := hid hb
      have hd1 : decide ((2 : Int) < (s.size : Int)) = false := decide_eq_false (by omega)
      clear hb
      have HD := fun w => rdigits10_any (s.extract 2 s.size) w (by rw [size_eq, extract_drop, List.length_drop]; omega)
      rw [extract_drop] at HD
      obtain ⟨m, hm⟩ : ∃ m, (run 10 (s.data.toList.drop 2)).length = m := ⟨_, rfl⟩
      obtain ⟨V, hV⟩ : ∃ V, min (valL 10 (run 10 (s.data.toList.drop 2)) : Int) 100000000 = V := ⟨_, rfl⟩
      rw [digitsV_eq ⟨hm, hV⟩] at HD
      have hml : m ≤ 1000000 := by have := run_le 10 (s.data.toList.drop 2); rw [List.length_drop] at this; omega
      have HD := hid HD
      have hk : 2 ≤ s.size := by omega
      by_cases hm0 : m = 0
      · have HE := hid (numeric_zero HB.out.1 HB.out.2 (hm.trans hm0))
        subst hm0
        clear hm hV
        go_enter Tryz.func68, Tryz.ntmps68
        go_wp2_with fail
        refine (HP.out _).mono ?_
        rintro e w' ⟨rfl, rfl⟩
        go_wp2_with fail
        refine (HD.out _).mono ?_
        rintro e w' ⟨rfl, rfl⟩
        go_wp2
        go_ret3
        exact ⟨HE.out.symm, rfl⟩
      · have HE := hid (numeric_yes H0.out H1.out HB.out.1 HB.out.2 ⟨hm, hV⟩ hm0)
        have t0 : ((m : Int) == 0) = false := beq_eq_false_iff_ne.2 (by omega)
        clear hm hV hm0
        go_enter Tryz.func68, Tryz.ntmps68
        go_wp2_with fail
        refine (HP.out _).mono ?_
        rintro e w' ⟨rfl, rfl⟩
        go_wp2_with fail
        refine (HD.out _).mono ?_
        rintro e w' ⟨rfl, rfl⟩
        go_wp2
        go_ret3
        exact ⟨HE.out.symm, rfl⟩
  · rw [decide_eq_false h] at HP
    have hv : numericE s.data.toList = .returned (.tuple #[.int .i64 0, .int .i64 0, .int .i64 0]) := by
      unfold numericE numericV
      rw [if_neg]
      · rfl
      · rintro ⟨a, b, c⟩
        have hd := digs_le c
        rw [List.length_drop, U8.B_drop] at hd
        exact h ⟨by omega, b, hd.2.2.2.1⟩
    rw [hv]
    have HP := hid HP
    clear h hv
    go_enter Tryz.func68, Tryz.ntmps68
    go_wp2_with fail
    refine (HP.out _).mono ?_
    rintro e w' ⟨rfl, rfl⟩
    go_wp2
    go_ret3
    exact ⟨rfl, rfl⟩
end Go.Proofs.YtgldgdopabmefaaGreatDoor
namespace Go.Proofs.YtgldgdopabmefaaGreatDoor
open Go.RowKit Go.Lib Ent
set_option maxRecDepth 100000
set_option linter.unusedVariables false

theorem rsemi_sign (l : List UInt8) (j : Nat) : semiW (l.drop j) = if signAt l j = true then 1 else 0 := by
  unfold semiW signAt
  rw [U8.B_drop, List.length_drop, Nat.add_zero]
  simp only [decide_eq_true_eq]
  congr 1
  exact propext ⟨fun ⟨a, b⟩ => ⟨by omega, b⟩, fun ⟨a, b⟩ => ⟨by omega, b⟩⟩
theorem rnum_char (n : Int) : ∃ c : Nat, numZ n = c ∧ OkC c ∧ (numZ n).toNat = c := by
  have h := numZ_ok n
  have h2 := numZ_okC n
  exact ⟨(numZ n).toNat, by omega, h2.2, rfl⟩
theorem numeric_of {l q : List UInt8} (h : l = 38 :: q) (hd : digs q ≠ []) : numericE l = .returned (.tuple #[.int .i64 (1 + numW q : Nat), .int .i64 (digs q).length, .int .i64 (min (numV q : Int) 100000000)]) := by
  unfold numericE numericV
  rw [h, if_pos ⟨by simp, rfl, hd⟩]
  rfl
theorem numeric_not {l q : List UInt8} (h : l = 38 :: q) (hd : digs q = []) : numericE l = .returned (.tuple #[.int .i64 0, .int .i64 0, .int .i64 0]) := by
  unfold numericE numericV
  rw [h, if_neg (fun x => x.2.2 hd)]
  rfl
theorem wf_i64 {n : Int} (h1 : -9223372036854775808 ≤ n) (h2 : n ≤ 9223372036854775807) : (Lit.int .i64 n).wf = true := by
  show (decide (IntKind.i64.min ≤ n) && decide (n ≤ IntKind.i64.max)) = true
  rw [show IntKind.i64.min = -9223372036854775808 from rfl, show IntKind.i64.max = 9223372036854775807 from rfl, decide_eq_true h1, decide_eq_true h2]
  rfl
theorem B_tail {l q : List UInt8} (h : l = 38 :: q) (j : Nat) : U8.B l (j + 1) = U8.B q j := by rw [h]; rfl
theorem ret_si (x : ByteArray) {a b : Int} (h : a = b) : Ending.returned (.tuple #[.string x, .int .i64 a]) = .returned (.tuple #[.string x, .int .i64 b]) := by rw [h]
def oneE (attr : Bool) (q : List UInt8) : Ending := .returned (.tuple #[.string ⟨(refer attr q).1.toArray⟩, .int .i64 ((refer attr q).2 + 1 : Nat)])
theorem oneE_eq {attr : Bool} {q i : List UInt8} {n : Nat} (h : refer attr q = (i, n)) : oneE attr q = .returned (.tuple #[.string ⟨i.toArray⟩, .int .i64 (n + 1 : Nat)]) := by unfold oneE; rw [h]

set_option maxHeartbeats 2000000 in
theorem rone_any (s : ByteArray) (attr : Bool) (q : List UInt8) (w : World) (hs : s.size ≤ 1000000) (hq : s.data.toList = 38 :: q) :
    Calls Tryz.prog 44 #[.string s, .bool attr] w fun e w' => e = oneE attr q ∧ Below w.heap.size w w' := by
  have HN := fun w => rnumeric_any s w hs
  have hsl := size_list s
  have hql : q.length + 1 = s.size := by rw [← hsl, hq]; simp
  by_cases hd : digs q = []
  · rw [numeric_not hq hd] at HN
    have e : refer attr q = if (named q).2 = 0 ∨ refuses attr q = true then ([38], 0) else named q := by unfold refer; rw [if_neg (fun h => h hd)]
    have HM := fun w => rnamed_any (s.extract 1 s.size) w (by rw [size_eq, extract_drop, List.length_drop]; omega)
    rw [extract_drop, hq, List.drop_succ_cons, List.drop_zero] at HM
    have hnc := named_cases q
    obtain ⟨i, n, hin⟩ : ∃ i n, named q = (i, n) := ⟨_, _, rfl⟩
    have er : refuses attr q = (attr && decide (U8.B q (n - 1) ≠ 59) && goesOn (q.drop n)) := by unfold refuses; rw [hin]
    rw [hin] at HM e hnc
    simp only at HM e hnc
    have hn8 : n ≤ 8 := hnc.2.1
    have hnl : n + 1 ≤ s.size := by omega
    have h1s : 1 ≤ s.size := by omega
    have HN := hid HN
    have HM := hid HM
    clear hin hd hnc
    by_cases hn0 : n = 0
    · rw [if_pos (.inl hn0)] at e
      have HE := hid (oneE_eq e)
      subst hn0
      clear e er hq hql
      go_enter Tryz.func44, Tryz.ntmps44
      go_wp2_with fail
      refine (HN.out _).mono ?_
      rintro e w' ⟨rfl, rfl⟩
      go_wp2_with fail
      refine (HM.out _).mono ?_
      rintro e w2 ⟨rfl, b2⟩
      have b2 := hid b2
      go_wp2
      go_ret2
      exact ⟨HE.out.symm, b2.out⟩
    · have t0 : ((n : Int) == 0) = false := beq_eq_false_iff_ne.2 (by omega)
      have hkl : n < s.size := by omega
      have hg := get_of s n hkl
      obtain ⟨c, hc⟩ : ∃ c, (s[n]'hkl) = c := ⟨_, rfl⟩
      obtain ⟨k, hk⟩ : ∃ k, n = k + 1 := ⟨n - 1, by omega⟩
      rw [hc, show U8.B s.data.toList n = U8.B q (n - 1) by rw [hk]; exact B_tail hq k] at hg
      rw [← hg] at er
      clear hg hk
      cases attr with
      | false =>
        rw [if_neg (by rw [er]; simp [hn0])] at e
        have HE := hid (oneE_eq e)
        clear e er hn0 hq hql
        go_enter Tryz.func44, Tryz.ntmps44
        go_wp2_with fail
        refine (HN.out _).mono ?_
        rintro e w' ⟨rfl, rfl⟩
        go_wp2_with fail
        refine (HM.out _).mono ?_
        rintro e w2 ⟨rfl, b2⟩
        have b2 := hid b2
        go_wp2
        go_ret2
        exact ⟨by rw [HE.out]; exact ret_si _ (by omega), b2.out⟩
      | true =>
        by_cases h59 : c.toNat = 59
        · rw [if_neg (by rw [er]; simp [h59, hn0])] at e
          have HE := hid (oneE_eq e)
          have t1 : ((c.toNat : Int) != 59) = false := by rw [h59]; rfl
          clear e er h59 hn0 hq hql
          go_enter Tryz.func44, Tryz.ntmps44
          go_wp2_with fail
          refine (HN.out _).mono ?_
          rintro e w' ⟨rfl, rfl⟩
          go_wp2_with fail
          refine (HM.out _).mono ?_
          rintro e w2 ⟨rfl, b2⟩
          have b2 := hid b2
          go_wp2
          go_ret2
          exact ⟨by rw [HE.out]; exact ret_si _ (by omega), b2.out⟩
        · have t1 : ((c.toNat : Int) != 59) = true := bne_iff_ne.2 (by omega)
          have er2 : refuses true q = goesOn (q.drop n) := by rw [er]; simp [h59]
          rw [er2] at e
          clear er er2 h59
          by_cases hlt : n + 1 < s.size
          · have d1 : decide ((n : Int) + 1 < (s.size : Int)) = true := decide_eq_true (by omega)
            have hg2 := get_of s (n + 1) hlt
            obtain ⟨c2, hc2⟩ : ∃ c, (s[n + 1]'hlt) = c := ⟨_, rfl⟩
            rw [hc2, B_tail hq n] at hg2
            have hlt2 := c2.toNat_lt
            have eg : goesOn (q.drop n) = decide (c2.toNat = 61 ∨ letterN c2.toNat = true ∨ digitN c2.toNat = true) := by
              unfold goesOn
              rw [U8.B_drop, Nat.add_zero, ← hg2, List.length_drop]
              simp [show 0 < q.length - n by omega]
            rw [eg] at e
            have HL := hid (fun w => rletter_any c2.toNat hlt2 w)
            have HD := hid (fun w => rdigit_any c2.toNat hlt2 w)
            clear eg hg2
            by_cases h61 : c2.toNat = 61
            · have t2 : ((c2.toNat : Int) == 61) = true := by rw [h61]; rfl
              rw [if_pos (.inr (decide_eq_true (.inl h61)))] at e
              have HE := hid (oneE_eq e)
              clear e h61 hn0 HL HD hq hql
              go_enter Tryz.func44, Tryz.ntmps44
              go_wp2_with fail
              refine (HN.out _).mono ?_
              rintro e w' ⟨rfl, rfl⟩
              go_wp2_with fail
              refine (HM.out _).mono ?_
              rintro e w2 ⟨rfl, b2⟩
              have b2 := hid b2
              go_wp2
              go_ret2
              exact ⟨HE.out.symm, b2.out⟩
            · have t2 : ((c2.toNat : Int) == 61) = false := beq_eq_false_iff_ne.2 (by omega)
              obtain ⟨b1, hb1⟩ : ∃ b, letterN c2.toNat = b := ⟨_, rfl⟩
              obtain ⟨b2, hb2⟩ : ∃ b, digitN c2.toNat = b := ⟨_, rfl⟩
              rw [hb1] at HL e
              rw [hb2] at HD e
              cases b1 with
              | true =>
                rw [if_pos (.inr (decide_eq_true (.inr (.inl rfl))))] at e
                have HE := hid (oneE_eq e)
                clear e h61 hn0 HD hb1 hb2 hq hql
                go_enter Tryz.func44, Tryz.ntmps44
                go_wp2_with fail
                refine (HN.out _).mono ?_
                rintro e w' ⟨rfl, rfl⟩
                go_wp2_with fail
                refine (HM.out _).mono ?_
                rintro e w2 ⟨rfl, b2⟩
                have b2 := hid b2
                go_wp2_with (go_at_call 36; refine (HL.out _).mono ?_; rintro e w' ⟨rfl, rfl⟩)
                go_ret2
                exact ⟨HE.out.symm, b2.out⟩
              | false =>
                cases b2 with
                | true =>
                  rw [if_pos (.inr (decide_eq_true (.inr (.inr rfl))))] at e
                  have HE := hid (oneE_eq e)
                  clear e h61 hn0 hb1 hb2 hq hql
                  go_enter Tryz.func44, Tryz.ntmps44
                  go_wp2_with fail
                  refine (HN.out _).mono ?_
                  rintro e w' ⟨rfl, rfl⟩
                  go_wp2_with fail
                  refine (HM.out _).mono ?_
                  rintro e w2 ⟨rfl, b2⟩
                  have b2 := hid b2
                  go_wp2_with (first | (go_at_call 36; refine (HL.out _).mono ?_; rintro e w' ⟨rfl, rfl⟩) | (go_at_call 71; refine (HD.out _).mono ?_; rintro e w' ⟨rfl, rfl⟩))
                  go_ret2
                  exact ⟨HE.out.symm, b2.out⟩
                | false =>
                  rw [if_neg (by simp [h61, hn0])] at e
                  have HE := hid (oneE_eq e)
                  clear e h61 hn0 hb1 hb2 hq hql
                  go_enter Tryz.func44, Tryz.ntmps44
                  go_wp2_with fail
                  refine (HN.out _).mono ?_
                  rintro e w' ⟨rfl, rfl⟩
                  go_wp2_with fail
                  refine (HM.out _).mono ?_
                  rintro e w2 ⟨rfl, b2⟩
                  have b2 := hid b2
                  go_wp2_with (first | (go_at_call 36; refine (HL.out _).mono ?_; rintro e w' ⟨rfl, rfl⟩) | (go_at_call 71; refine (HD.out _).mono ?_; rintro e w' ⟨rfl, rfl⟩))
                  go_ret2
                  exact ⟨by rw [HE.out]; exact ret_si _ (by omega), b2.out⟩
          · have d1 : decide ((n : Int) + 1 < (s.size : Int)) = false := decide_eq_false (by omega)
            have eg : goesOn (q.drop n) = false := by
              unfold goesOn
              exact decide_eq_false (fun h => by have := h.1; rw [List.length_drop] at this; omega)
            rw [eg, if_neg (by simp [hn0])] at e
            have HE := hid (oneE_eq e)
            clear e hn0 eg hq hql
            go_enter Tryz.func44, Tryz.ntmps44
            go_wp2_with fail
            refine (HN.out _).mono ?_
            rintro e w' ⟨rfl, rfl⟩
            go_wp2_with fail
            refine (HM.out _).mono ?_
            rintro e w2 ⟨rfl, b2⟩
            have b2 := hid b2
            go_wp2
            go_ret2
            exact ⟨by rw [HE.out]; exact ret_si _ (by omega), b2.out⟩
  · rw [numeric_of hq hd] at HN
    have e : refer attr q = (encN (numZ (numV q)).toNat, numW q + semiW (q.drop (numW q))) := by unfold refer; rw [if_pos hd]
    have h1 := digs_le hd
    obtain ⟨c, hc1, hc2, hc3⟩ := rnum_char (numV q)
    rw [hc3, rsemi_sign] at e
    have HM : ∀ w, Calls Tryz.prog 69 #[.int .i64 (min (numV q : Int) 100000000)] w fun e w' => e = .returned (.int .i32 c) ∧ Below w.heap.size w w' := fun w => by
      have := rnumber_any (min (numV q : Int) 100000000) w (wf_i64 (by omega) (by omega))
      rw [numZ_min _ _ (by omega), hc1] at this
      exact this
    obtain ⟨V, hV⟩ : ∃ V, min (numV q : Int) 100000000 = V := ⟨_, rfl⟩
    obtain ⟨W, hW⟩ : ∃ W, numW q = W := ⟨_, rfl⟩
    obtain ⟨D, hD⟩ : ∃ D, (digs q).length = D := ⟨_, rfl⟩
    rw [hV] at HN HM
    rw [hW] at HN h1 e
    rw [hD] at HN
    have es : signAt q W = decide (W + 1 < s.size ∧ U8.B s.data.toList (W + 1) = 59) := by
      unfold signAt
      rw [B_tail hq W]
      exact decide_eq_decide.2 ⟨fun ⟨a, b⟩ => ⟨by omega, b⟩, fun ⟨a, b⟩ => ⟨by omega, b⟩⟩
    rw [es] at e
    have hWs : W + 1 ≤ s.size := by omega
    rw [show ((1 + W : Nat) : Int) = 1 + (W : Int) by omega] at HN
    have HN := hid HN
    have HM := hid HM
    have HC := hid (fun w => conv_one w c hc2)
    have tp : decide ((0 : Int) < 1 + (W : Int)) = true := decide_eq_true (by omega)
    clear hV hW hD h1 hd hc1 hc3 es hq hql
    by_cases hlt : 1 + W < s.size
    · have hg := get_of s (1 + W) hlt
      obtain ⟨c1, hcc⟩ : ∃ c, (s[1 + W]'hlt) = c := ⟨_, rfl⟩
      rw [hcc, Nat.add_comm 1 W] at hg
      rw [← hg] at e
      clear hg
      have d1 : decide ((1 : Int) + (W : Int) < (s.size : Int)) = true := decide_eq_true (by omega)
      by_cases h59 : c1.toNat = 59
      · rw [decide_eq_true (⟨by omega, h59⟩ : W + 1 < s.size ∧ c1.toNat = 59), if_pos rfl] at e
        have HE := hid (oneE_eq e)
        have t1 : ((c1.toNat : Int) == 59) = true := by rw [h59]; rfl
        clear e h59
        go_enter Tryz.func44, Tryz.ntmps44
        go_wp2_with fail
        refine (HN.out _).mono ?_
        rintro e w' ⟨rfl, rfl⟩
        go_wp2_with fail
        refine (HM.out _).mono ?_
        rintro e w1 ⟨rfl, b1⟩
        have b2 := hid (b1.alloc b1.size (.cells #[.int .i32 c] 21))
        have hcv := HC.out w1
        clear b1
        go_wp2
        go_ret2
        exact ⟨by rw [HE.out]; exact ret_si _ (by omega), b2.out⟩
      · rw [decide_eq_false (fun h => h59 h.2 : ¬ (W + 1 < s.size ∧ c1.toNat = 59)), if_neg (by simp)] at e
        have HE := hid (oneE_eq e)
        have t1 : ((c1.toNat : Int) == 59) = false := beq_eq_false_iff_ne.2 (by omega)
        clear e h59
        go_enter Tryz.func44, Tryz.ntmps44
        go_wp2_with fail
        refine (HN.out _).mono ?_
        rintro e w' ⟨rfl, rfl⟩
        go_wp2_with fail
        refine (HM.out _).mono ?_
        rintro e w1 ⟨rfl, b1⟩
        have b2 := hid (b1.alloc b1.size (.cells #[.int .i32 c] 21))
        have hcv := HC.out w1
        clear b1
        go_wp2
        go_ret2
        exact ⟨by rw [HE.out]; exact ret_si _ (by omega), b2.out⟩
    · rw [decide_eq_false (fun h => by omega : ¬ (W + 1 < s.size ∧ U8.B s.data.toList (W + 1) = 59)), if_neg (by simp)] at e
      have HE := hid (oneE_eq e)
      have d1 : decide ((1 : Int) + (W : Int) < (s.size : Int)) = false := decide_eq_false (by omega)
      clear e
      go_enter Tryz.func44, Tryz.ntmps44
      go_wp2_with fail
      refine (HN.out _).mono ?_
      rintro e w' ⟨rfl, rfl⟩
      go_wp2_with fail
      refine (HM.out _).mono ?_
      rintro e w1 ⟨rfl, b1⟩
      have b2 := hid (b1.alloc b1.size (.cells #[.int .i32 c] 21))
      have hcv := HC.out w1
      clear b1
      go_wp2
      go_ret2
      exact ⟨by rw [HE.out]; exact ret_si _ (by omega), b2.out⟩
end Go.Proofs.YtgldgdopabmefaaGreatDoor
namespace Go.Proofs.YtgldgdopabmefaaGreatDoor
open Go.RowKit Go.Lib Ent
set_option maxRecDepth 100000
set_option linter.unusedVariables false

theorem bytes_by_list {X : ByteArray} {l : List UInt8} (h : X.data.toList = l) : X = ⟨l.toArray⟩ := by
  apply ByteArray.ext; apply Array.ext'; exact h
/-- What is written, and what is left. -/
def DcI (attr : Bool) (L : List UInt8) (X S : ByteArray) : Prop := X.data.toList ++ Ent.decode attr S.data.toList = Ent.decode attr L
theorem dc_len {attr : Bool} {L : List UInt8} {X S : ByteArray} (h : DcI attr L X S) : X.size ≤ 7 * L.length := by
  have h1 := Ent.decode_le attr L
  unfold DcI at h
  rw [← h, List.length_append, size_list] at h1
  omega
theorem dc_other {attr : Bool} {L : List UInt8} {X S : ByteArray} (h : DcI attr L X S) (hp : 0 < S.size) (hc : U8.B S.data.toList 0 ≠ 38) : DcI attr L (X ++ S.extract 0 1) (S.extract 1 S.size) := by
  unfold DcI at h ⊢
  rw [cat_list, extract_list, extract_drop]
  cases hl : S.data.toList with
  | nil => rw [size_eq, hl] at hp; simp at hp
  | cons a r =>
    rw [hl] at h hc
    have ha : a ≠ 38 := fun e => hc (by rw [e]; rfl)
    rw [Ent.decode_other attr a r ha] at h
    rw [← h]
    simp
theorem dc_amp {attr : Bool} {L q : List UInt8} {X S I : ByteArray} {n : Nat} (h : DcI attr L X S) (hq : S.data.toList = 38 :: q) (hI : I.data.toList = (refer attr q).1) (hn : n = (refer attr q).2) : DcI attr L (X ++ I) (S.extract (n + 1) S.size) := by
  unfold DcI at h ⊢
  rw [cat_list, extract_drop, hI, hq, List.drop_succ_cons, hn, ← h, hq, Ent.decode_amp, List.append_assoc]

set_option maxHeartbeats 2000000 in
theorem rdecode_any (s : ByteArray) (attr : Bool) (w : World) (hs : s.size ≤ 500000) :
    Calls Tryz.prog 21 #[.string s, .bool attr] w fun e w' => e = .returned (.string ⟨(Ent.decode attr s.data.toList).toArray⟩) ∧ Below w.heap.size w w' := by
  have hsl := size_list s
  obtain ⟨L, hL⟩ : ∃ L, s.data.toList = L := ⟨_, rfl⟩
  have H0 : Hid (DcI attr L ⟨#[]⟩ s) := hid (by unfold DcI; rw [hL]; rfl)
  rw [hL] at hsl ⊢
  clear hL
  go_enter Tryz.func21, Tryz.ntmps21
  go_wp2
  go_loopg [0, 5] s.size (fun g sv ov wr => ∃ (S X : ByteArray), sv = .string S ∧ ov = .string X ∧ Hid (DcI attr L X S) ∧ S.size ≤ g ∧ S.size ≤ s.size ∧ Below w.heap.size w wr)
  case atStart => exact ⟨s, ⟨#[]⟩, rfl, rfl, H0, by omega, by omega, Below.refl _ _⟩
  case round =>
    obtain ⟨S, X, rfl, rfl, hD, hg, hle, hbw⟩ := hrel
    have hXs := dc_len hD.out
    have hszr := hbw.size
    by_cases hp : 0 < S.size
    · have hd : decide ((0 : Int) < (S.size : Int)) = true := decide_eq_true (by omega)
      have hg0 := get_of S 0 hp
      obtain ⟨c, hc⟩ : ∃ c, (S[0]'hp) = c := ⟨_, rfl⟩
      rw [hc] at hg0
      have hcat : X.size + 8 ≤ 9223372036854775807 := by omega
      by_cases h38 : c.toNat = 38
      · have t0 : ((c.toNat : Int) != 38) = false := by rw [h38]; rfl
        obtain ⟨q, hq⟩ : ∃ q, S.data.toList = 38 :: q := by
          cases hl : S.data.toList with
          | nil => rw [size_eq, hl] at hp; simp at hp
          | cons a r =>
            have : U8.B (a :: r) 0 = a.toNat := rfl
            rw [hl, this, h38] at hg0
            have ha : a = 38 := UInt8.toNat_inj.1 (show a.toNat = (38 : UInt8).toNat from hg0.symm)
            exact ⟨r, by rw [ha]⟩
        have HO := rone_any S attr q wr (by omega) hq
        have hrl := refer_le attr q
        have hql : q.length + 1 = S.size := by rw [← size_list, hq]; simp
        obtain ⟨i, n, hin⟩ : ∃ i n, refer attr q = (i, n) := ⟨_, _, rfl⟩
        rw [oneE_eq hin] at HO
        obtain ⟨I, hI0⟩ : ∃ I : ByteArray, I = ⟨i.toArray⟩ := ⟨_, rfl⟩
        have hIl : I.data.toList = i := by rw [hI0]
        have HN := hid (dc_amp (I := I) (n := n) hD.out hq (by rw [hin]; exact hIl) (by rw [hin]))
        rw [hin] at hrl
        simp only at hrl
        obtain ⟨r1, r2, _⟩ := hrl
        have hIs : I.size ≤ 7 := by rw [size_eq, hIl]; exact r2
        rw [← hI0] at HO
        have HO := hid HO
        have hn1 : n + 1 ≤ S.size := by omega
        have hxs : (S.extract (n + 1) S.size).size = S.size - (n + 1) := by rw [size_eq, extract_drop, List.length_drop, size_list]
        clear h38 hin hI0 hIl hg0 hD hql hq r1 r2
        go_wp2_with fail
        refine HO.out.mono ?_
        rintro e w1 ⟨rfl, b1⟩
        have hb1 := hid (hbw.trans (b1.mono hszr))
        clear b1 hbw
        go_wp2
        go_roundg (S.size - (n + 1))
        case measure => omega
        case rel => exact ⟨_, _, rfl, rfl, HN, by omega, by omega, hb1.out⟩
      · have t0 : ((c.toNat : Int) != 38) = true := bne_iff_ne.2 (by omega)
        have HN := hid (dc_other hD.out hp (by rw [← hg0]; exact h38))
        have hxs : (S.extract 1 S.size).size = S.size - 1 := by rw [size_eq, extract_drop, List.length_drop, size_list]
        have hx0 : (S.extract 0 1).size = 1 := size_extract0 S 1 (by omega)
        clear h38 hg0 hD
        go_wp2
        go_roundg (S.size - 1)
        case measure => omega
        case rel => exact ⟨_, _, rfl, rfl, HN, by omega, by omega, hbw⟩
    · have hd : decide ((0 : Int) < (S.size : Int)) = false := decide_eq_false (by omega)
      have hSl : S.data.toList = [] := List.length_eq_zero_iff.1 (by rw [size_list]; omega)
      have HE := hid (bytes_by_list (show X.data.toList = Ent.decode attr L by have := hD.out; unfold DcI at this; rw [hSl, Ent.decode_nil, List.append_nil] at this; exact this))
      clear hSl hD
      go_wp2
      go_ret
      exact ⟨by rw [← HE.out]; rfl, hbw⟩
end Go.Proofs.YtgldgdopabmefaaGreatDoor
