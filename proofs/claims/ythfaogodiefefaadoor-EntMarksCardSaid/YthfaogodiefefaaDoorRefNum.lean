/- Walks over the reference of layer 3: digits, a number behind '&#'. -/
import Derived.Test.YthfaogodiefefaaDoorRefEnt
import Derived.Deep.LoopGhost
namespace Go.Proofs.YthfaogodiefefaaDoor
open Go.RowKit Go.Lib Ent
set_option maxRecDepth 100000
set_option linter.unusedVariables false

/-- Behind i digits. -/
def RInv (l : List UInt8) (b i : Nat) (V : Int) : Prop := i ≤ (run b l).length ∧ V = min (valL b (l.take i) : Int) 100000000
theorem RInv.le {l : List UInt8} {b i : Nat} {V : Int} (hi : RInv l b i V) : i ≤ l.length ∧ 0 ≤ V ∧ V ≤ 100000000 := by
  have := run_le b l
  obtain ⟨h1, h2⟩ := hi
  omega
theorem RInv.start (l : List UInt8) (b : Nat) : RInv l b 0 0 := ⟨by omega, by rw [List.take_zero]; rfl⟩
theorem RInv.step {l : List UInt8} {b i : Nat} {V : Int} (hi : RInv l b i V) (hlt : i < l.length) (hb : 1 ≤ b) (h1 : 0 ≤ hexN (U8.B l i)) (h2 : hexN (U8.B l i) < b) : RInv l b (i + 1) (min (V * b + hexN (U8.B l i)) 100000000) := by
  have hB : U8.B l i = (l[i]).toNat := U8.B_eq (List.getElem?_eq_getElem hlt)
  rw [hB] at h1 h2 ⊢
  have hr := (run_step hlt hi.1).1 (decide_eq_true ⟨h1, h2⟩)
  refine ⟨hr, ?_⟩
  rw [val_step b _ i hlt, hi.2]
  have := min_step (valL b (l.take i)) 100000000 b (hexN (l[i]).toNat) (by omega) (by omega) (by omega) h1
  rw [this, Int.natCast_add, Int.natCast_mul, Int.toNat_of_nonneg h1]
theorem RInv.stop {l : List UInt8} {b i : Nat} {V : Int} (hi : RInv l b i V) (hs : l.length ≤ i ∨ ¬ (0 ≤ hexN (U8.B l i) ∧ hexN (U8.B l i) < b)) : (run b l).length = i ∧ min (valL b (run b l) : Int) 100000000 = V := by
  have h1 : (run b l).length = i := by
    rcases Nat.lt_or_ge i l.length with hlt | hge
    · have hB : U8.B l i = (l[i]).toNat := U8.B_eq (List.getElem?_eq_getElem hlt)
      rw [hB] at hs
      exact (run_step hlt hi.1).2 (decide_eq_false (hs.resolve_left (by omega)))
    · have := run_le b l
      have := hi.1
      omega
  refine ⟨h1, ?_⟩
  rw [hi.2]
  conv => lhs; rw [run_take b l, h1]
def digitsV (b : Nat) (l : List UInt8) : Ending := .returned (.tuple #[.int .i64 (run b l).length, .int .i64 (min (valL b (run b l) : Int) 100000000)])
theorem digitsV_eq {b i : Nat} {V : Int} {l : List UInt8} (h : (run b l).length = i ∧ min (valL b (run b l) : Int) 100000000 = V) : digitsV b l = .returned (.tuple #[.int .i64 i, .int .i64 V]) := by unfold digitsV; rw [h.1, h.2]
set_option maxHeartbeats 1000000 in
theorem rdigits10_any (s : ByteArray) (w : World) (hs : s.size ≤ 1000000) :
    Calls Tryd.prog 52 #[.string s, .int .i64 10] w fun e w' => e = digitsV 10 s.data.toList ∧ w = w' := by
  have hsl := size_list s
  go_enter Tryd.func52, Tryd.ntmps52
  go_wp2
  go_loopg [6, 7] s.size (fun g n i wx => ∃ (k : Nat) (V : Int), k + g = s.size ∧ i = .int .i64 k ∧ n = .int .i64 V ∧ Hid (RInv s.data.toList 10 k V) ∧ 0 ≤ V ∧ V ≤ 100000000 ∧ wx = w)
  case atStart => exact ⟨0, 0, by omega, rfl, rfl, hid (RInv.start _ _), by omega, by omega, rfl⟩
  case round =>
    obtain ⟨k, V, hk, rfl, rfl, hI, hV0, hV1, rfl⟩ := hrel
    by_cases hlt : k < s.size
    · have hg := get_of s k hlt
      obtain ⟨c, hc⟩ : ∃ c, (s[k]'hlt) = c := ⟨_, rfl⟩
      rw [hc] at hg
      have HX := fun w => rhex_any c.toNat (UInt8.toNat_lt _) w
      have hb := hexN_lt (U8.B s.data.toList k)
      have HSt := hI.out.step (by rw [hsl]; exact hlt) (by omega)
      have HSp := hI.out.stop (i := k)
      rw [← hg] at hb HSt HSp
      obtain ⟨x, hx⟩ : ∃ x, hexN c.toNat = x := ⟨_, rfl⟩
      rw [hx] at HX hb HSt HSp
      have HX2 := hid HX
      clear hx HX hg hI
      by_cases hdg : 0 ≤ x ∧ x < 10
      · have HN : Hid (RInv s.data.toList 10 (k + 1) (min (V * 10 + x) 100000000)) := hid (HSt hdg.1 hdg.2)
        obtain ⟨g1, g2⟩ := hdg
        have d1 : decide (x < 0) = false := decide_eq_false (by omega)
        have d2 : decide ((10 : Int) ≤ x) = false := decide_eq_false (by omega)
        clear HSt HSp hb
        go_wp2_with (go_at_call 58; refine (HX2.out _).mono ?_; rintro e w' ⟨rfl, rfl⟩)
        go_roundg (s.size - (k + 1))
        case measure => omega
        case rel => exact ⟨k + 1, _, by omega, by go_num, rfl, HN, by omega, by omega, rfl⟩
      · have HE := hid (digitsV_eq (HSp (.inr hdg)))
        clear HSt HSp
        rcases (show x < 0 ∨ (0 ≤ x ∧ 10 ≤ x) by omega) with g1 | ⟨g1, g2⟩
        · have d1 : decide (x < 0) = true := decide_eq_true (by omega)
          clear hdg hb
          go_wp2_with (go_at_call 58; refine (HX2.out _).mono ?_; rintro e w' ⟨rfl, rfl⟩)
          go_ret2
          exact ⟨HE.out.symm, rfl⟩
        · have d1 : decide (x < 0) = false := decide_eq_false (by omega)
          have d2 : decide ((10 : Int) ≤ x) = true := decide_eq_true (by omega)
          clear hdg hb
          go_wp2_with (go_at_call 58; refine (HX2.out _).mono ?_; rintro e w' ⟨rfl, rfl⟩)
          go_ret2
          exact ⟨HE.out.symm, rfl⟩
    · have HE := hid (digitsV_eq (hI.out.stop (.inl (by rw [hsl]; omega))))
      have hd : decide (k < s.size) = false := decide_eq_false hlt
      clear hI
      go_wp2
      go_ret2
      exact ⟨HE.out.symm, rfl⟩
set_option maxHeartbeats 1000000 in
theorem rdigits16_any (s : ByteArray) (w : World) (hs : s.size ≤ 1000000) :
    Calls Tryd.prog 52 #[.string s, .int .i64 16] w fun e w' => e = digitsV 16 s.data.toList ∧ w = w' := by
  have hsl := size_list s
  go_enter Tryd.func52, Tryd.ntmps52
  go_wp2
  go_loopg [6, 7] s.size (fun g n i wx => ∃ (k : Nat) (V : Int), k + g = s.size ∧ i = .int .i64 k ∧ n = .int .i64 V ∧ Hid (RInv s.data.toList 16 k V) ∧ 0 ≤ V ∧ V ≤ 100000000 ∧ wx = w)
  case atStart => exact ⟨0, 0, by omega, rfl, rfl, hid (RInv.start _ _), by omega, by omega, rfl⟩
  case round =>
    obtain ⟨k, V, hk, rfl, rfl, hI, hV0, hV1, rfl⟩ := hrel
    by_cases hlt : k < s.size
    · have hg := get_of s k hlt
      obtain ⟨c, hc⟩ : ∃ c, (s[k]'hlt) = c := ⟨_, rfl⟩
      rw [hc] at hg
      have HX := fun w => rhex_any c.toNat (UInt8.toNat_lt _) w
      have hb := hexN_lt (U8.B s.data.toList k)
      have HSt := hI.out.step (by rw [hsl]; exact hlt) (by omega)
      have HSp := hI.out.stop (i := k)
      rw [← hg] at hb HSt HSp
      obtain ⟨x, hx⟩ : ∃ x, hexN c.toNat = x := ⟨_, rfl⟩
      rw [hx] at HX hb HSt HSp
      have HX2 := hid HX
      clear hx HX hg hI
      by_cases hdg : 0 ≤ x ∧ x < 16
      · have HN : Hid (RInv s.data.toList 16 (k + 1) (min (V * 16 + x) 100000000)) := hid (HSt hdg.1 hdg.2)
        obtain ⟨g1, g2⟩ := hdg
        have d1 : decide (x < 0) = false := decide_eq_false (by omega)
        have d2 : decide ((16 : Int) ≤ x) = false := decide_eq_false (by omega)
        clear HSt HSp hb
        go_wp2_with (go_at_call 58; refine (HX2.out _).mono ?_; rintro e w' ⟨rfl, rfl⟩)
        go_roundg (s.size - (k + 1))
        case measure => omega
        case rel => exact ⟨k + 1, _, by omega, by go_num, rfl, HN, by omega, by omega, rfl⟩
      · have HE := hid (digitsV_eq (HSp (.inr hdg)))
        clear HSt HSp
        rcases (show x < 0 ∨ (0 ≤ x ∧ 16 ≤ x) by omega) with g1 | ⟨g1, g2⟩
        · have d1 : decide (x < 0) = true := decide_eq_true (by omega)
          clear hdg hb
          go_wp2_with (go_at_call 58; refine (HX2.out _).mono ?_; rintro e w' ⟨rfl, rfl⟩)
          go_ret2
          exact ⟨HE.out.symm, rfl⟩
        · have d1 : decide (x < 0) = false := decide_eq_false (by omega)
          have d2 : decide ((16 : Int) ≤ x) = true := decide_eq_true (by omega)
          clear hdg hb
          go_wp2_with (go_at_call 58; refine (HX2.out _).mono ?_; rintro e w' ⟨rfl, rfl⟩)
          go_ret2
          exact ⟨HE.out.symm, rfl⟩
    · have HE := hid (digitsV_eq (hI.out.stop (.inl (by rw [hsl]; omega))))
      have hd : decide (k < s.size) = false := decide_eq_false hlt
      clear hI
      go_wp2
      go_ret2
      exact ⟨HE.out.symm, rfl⟩

def numericV (l : List UInt8) : Nat × Nat × Int :=
  if 0 < l.length ∧ U8.B l 0 = 38 ∧ digs (l.drop 1) ≠ [] then (1 + numW (l.drop 1), (digs (l.drop 1)).length, min (numV (l.drop 1) : Int) 100000000) else (0, 0, 0)
def numericE (l : List UInt8) : Ending := .returned (.tuple #[.int .i64 (numericV l).1, .int .i64 (numericV l).2.1, .int .i64 (numericV l).2.2])
theorem numeric_yes {l : List UInt8} {b h i : Nat} {V : Int} (h0 : 0 < l.length ∧ U8.B l 0 = 38) (h1 : 1 < l.length ∧ U8.B l 1 = 35) (hb : baseOf (l.drop 1) = b) (hh : headOf (l.drop 1) = h) (hr : (run b (l.drop (1 + h))).length = i ∧ min (valL b (run b (l.drop (1 + h))) : Int) 100000000 = V) (hi : i ≠ 0) :
    numericE l = .returned (.tuple #[.int .i64 ((1 + h : Nat) + (i : Int)), .int .i64 i, .int .i64 V]) := by
  have hd : digs (l.drop 1) = run b (l.drop (1 + h)) := by
    unfold digs
    rw [if_pos (by rw [List.length_drop, U8.B_drop]; exact ⟨by omega, h1.2⟩), hb, hh, List.drop_drop]
  have hv : numericV l = (1 + h + i, i, V) := by
    unfold numericV numV numW
    rw [if_pos ⟨h0.1, h0.2, by rw [hd]; intro e; rw [e] at hr; simp at hr; omega⟩, hd, hb, hh, hr.1, hr.2, Nat.add_assoc]
  unfold numericE
  rw [hv]
  simp only [Int.natCast_add]
theorem numeric_zero {l : List UInt8} {b h : Nat} (hb : baseOf (l.drop 1) = b) (hh : headOf (l.drop 1) = h) (hr : (run b (l.drop (1 + h))).length = 0) :
    numericE l = .returned (.tuple #[.int .i64 0, .int .i64 0, .int .i64 0]) := by
  have hd : digs (l.drop 1) = [] := by
    unfold digs
    split
    · rw [hb, hh, List.drop_drop]; exact List.length_eq_zero_iff.1 hr
    · rfl
  unfold numericE numericV
  rw [if_neg (fun h => h.2.2 hd)]
  rfl
theorem amp_pre (l : List UInt8) : ([38, 35] : List UInt8).isPrefixOf l = decide (1 < l.length ∧ U8.B l 0 = 38 ∧ U8.B l 1 = 35) := by
  match l with
  | [] => simp
  | [a] => show ((38 : UInt8) == a && false) = _; simp
  | a :: c :: r =>
    have e0 : U8.B (a :: c :: r) 0 = a.toNat := rfl
    have e1 : U8.B (a :: c :: r) 1 = c.toNat := rfl
    rw [e0, e1, Bool.eq_iff_iff]
    simp only [List.isPrefixOf_cons_cons, List.isPrefixOf_nil_left, Bool.and_true, Bool.and_eq_true, beq_iff_eq, decide_eq_true_eq, List.length_cons]
    exact ⟨fun ⟨x, y⟩ => ⟨by omega, by rw [← x]; rfl, by rw [← y]; rfl⟩, fun ⟨_, x, y⟩ => ⟨(UInt8.toNat_inj.1 x).symm, (UInt8.toNat_inj.1 y).symm⟩⟩
set_option maxHeartbeats 1000000 in
theorem rnumeric_any (s : ByteArray) (w : World) (hs : s.size ≤ 1000000) :
    Calls Tryd.prog 39 #[.string s] w fun e w' => e = numericE s.data.toList ∧ w = w' := by
  have HP := fun w => rbegins_any s ⟨#[38, 35]⟩ w hs (by decide)
  rw [show (⟨#[38, 35]⟩ : ByteArray).data.toList = [38, 35] from rfl, amp_pre] at HP
  have hsl := size_list s
  by_cases h : 1 < s.data.toList.length ∧ U8.B s.data.toList 0 = 38 ∧ U8.B s.data.toList 1 = 35
  · rw [decide_eq_true h] at HP
    have H0 : Hid (0 < s.data.toList.length ∧ U8.B s.data.toList 0 = 38) := hid ⟨by omega, h.2.1⟩
    have H1 : Hid (1 < s.data.toList.length ∧ U8.B s.data.toList 1 = 35) := hid ⟨h.1, h.2.2⟩
    have HP := hid HP
    have hs2 : 2 ≤ s.size := by omega
    clear h
    by_cases h1 : 2 < s.size
    · have hg1 := get_of s 2 h1
      obtain ⟨c1, hc1⟩ : ∃ c, (s[2]'h1) = c := ⟨_, rfl⟩
      rw [hc1] at hg1
      have hd1 : decide ((2 : Int) < (s.size : Int)) = true := decide_eq_true (by omega)
      by_cases hx1 : c1.toNat = 120
      · have hb : baseOf (s.data.toList.drop 1) = 16 ∧ headOf (s.data.toList.drop 1) = 2 := by
          have hx : isX (s.data.toList.drop 1) = true := by
            unfold isX
            rw [List.length_drop, show U8.B (s.data.toList.drop 1) 1 = U8.B s.data.toList 2 from U8.B_drop _ _ _]
            exact decide_eq_true (by omega)
          unfold baseOf headOf
          rw [hx]
          exact ⟨rfl, rfl⟩
        have HB := hid hb
        have e1 : ((c1.toNat : Int) == 120) = true := by rw [hx1]; rfl
        clear hb hx1 hg1
        have HD := fun w => rdigits16_any (s.extract 3 s.size) w (by rw [size_eq, extract_drop, List.length_drop]; omega)
        rw [extract_drop] at HD
        obtain ⟨m, hm⟩ : ∃ m, (run 16 (s.data.toList.drop 3)).length = m := ⟨_, rfl⟩
        obtain ⟨V, hV⟩ : ∃ V, min (valL 16 (run 16 (s.data.toList.drop 3)) : Int) 100000000 = V := ⟨_, rfl⟩
        rw [digitsV_eq ⟨hm, hV⟩] at HD
        have hml : m ≤ 1000000 := by have := run_le 16 (s.data.toList.drop 3); rw [List.length_drop] at this; omega
        have HD := hid HD
        have hk : 3 ≤ s.size := by omega
        by_cases hm0 : m = 0
        · have HE := hid (numeric_zero HB.out.1 HB.out.2 (hm.trans hm0))
          subst hm0
          clear hm hV
          go_enter Tryd.func39, Tryd.ntmps39
          go_wp2_with fail
          refine (HP.out _).mono ?_
          rintro e w' ⟨rfl, rfl⟩
          go_wp2_with fail
          refine (HD.out _).mono ?_
          rintro e w' ⟨rfl, rfl⟩
          go_wp2
          go_ret3
          exact ⟨HE.out.symm, rfl⟩
        · have HE := hid (numeric_yes H0.out H1.out HB.out.1 HB.out.2 ⟨hm, hV⟩ hm0)
          have t0 : ((m : Int) == 0) = false := beq_eq_false_iff_ne.2 (by omega)
          clear hm hV hm0
          go_enter Tryd.func39, Tryd.ntmps39
          go_wp2_with fail
          refine (HP.out _).mono ?_
          rintro e w' ⟨rfl, rfl⟩
          go_wp2_with fail
          refine (HD.out _).mono ?_
          rintro e w' ⟨rfl, rfl⟩
          go_wp2
          go_ret3
          exact ⟨HE.out.symm, rfl⟩
      · have e1 : ((c1.toNat : Int) == 120) = false := beq_eq_false_iff_ne.2 (by omega)
        by_cases hx2 : c1.toNat = 88
        · have hb : baseOf (s.data.toList.drop 1) = 16 ∧ headOf (s.data.toList.drop 1) = 2 := by
            have hx : isX (s.data.toList.drop 1) = true := by
              unfold isX
              rw [List.length_drop, show U8.B (s.data.toList.drop 1) 1 = U8.B s.data.toList 2 from U8.B_drop _ _ _]
              exact decide_eq_true (by omega)
            unfold baseOf headOf
            rw [hx]
            exact ⟨rfl, rfl⟩
          have HB := hid hb
          have e2 : ((c1.toNat : Int) == 88) = true := by rw [hx2]; rfl
          clear hb hx1 hx2 hg1
          have HD := fun w => rdigits16_any (s.extract 3 s.size) w (by rw [size_eq, extract_drop, List.length_drop]; omega)
          rw [extract_drop] at HD
          obtain ⟨m, hm⟩ : ∃ m, (run 16 (s.data.toList.drop 3)).length = m := ⟨_, rfl⟩
          obtain ⟨V, hV⟩ : ∃ V, min (valL 16 (run 16 (s.data.toList.drop 3)) : Int) 100000000 = V := ⟨_, rfl⟩
          rw [digitsV_eq ⟨hm, hV⟩] at HD
          have hml : m ≤ 1000000 := by have := run_le 16 (s.data.toList.drop 3); rw [List.length_drop] at this; omega
          have HD := hid HD
          have hk : 3 ≤ s.size := by omega
          by_cases hm0 : m = 0
          · have HE := hid (numeric_zero HB.out.1 HB.out.2 (hm.trans hm0))
            subst hm0
            clear hm hV
            go_enter Tryd.func39, Tryd.ntmps39
            go_wp2_with fail
            refine (HP.out _).mono ?_
            rintro e w' ⟨rfl, rfl⟩
            go_wp2_with fail
            refine (HD.out _).mono ?_
            rintro e w' ⟨rfl, rfl⟩
            go_wp2
            go_ret3
            exact ⟨HE.out.symm, rfl⟩
          · have HE := hid (numeric_yes H0.out H1.out HB.out.1 HB.out.2 ⟨hm, hV⟩ hm0)
            have t0 : ((m : Int) == 0) = false := beq_eq_false_iff_ne.2 (by omega)
            clear hm hV hm0
            go_enter Tryd.func39, Tryd.ntmps39
            go_wp2_with fail
            refine (HP.out _).mono ?_
            rintro e w' ⟨rfl, rfl⟩
            go_wp2_with fail
            refine (HD.out _).mono ?_
            rintro e w' ⟨rfl, rfl⟩
            go_wp2
            go_ret3
            exact ⟨HE.out.symm, rfl⟩
        · have hb : baseOf (s.data.toList.drop 1) = 10 ∧ headOf (s.data.toList.drop 1) = 1 := by
            have hx : isX (s.data.toList.drop 1) = false := by
              unfold isX
              rw [List.length_drop, show U8.B (s.data.toList.drop 1) 1 = U8.B s.data.toList 2 from U8.B_drop _ _ _]
              exact decide_eq_false (by omega)
            unfold baseOf headOf
            rw [hx]
            exact ⟨rfl, rfl⟩
          have HB := hid hb
          have e2 : ((c1.toNat : Int) == 88) = false := beq_eq_false_iff_ne.2 (by omega)
          clear hb hx1 hx2 hg1
          have HD := fun w => rdigits10_any (s.extract 2 s.size) w (by rw [size_eq, extract_drop, List.length_drop]; omega)
          rw [extract_drop] at HD
          obtain ⟨m, hm⟩ : ∃ m, (run 10 (s.data.toList.drop 2)).length = m := ⟨_, rfl⟩
          obtain ⟨V, hV⟩ : ∃ V, min (valL 10 (run 10 (s.data.toList.drop 2)) : Int) 100000000 = V := ⟨_, rfl⟩
          rw [digitsV_eq ⟨hm, hV⟩] at HD
          have hml : m ≤ 1000000 := by have := run_le 10 (s.data.toList.drop 2); rw [List.length_drop] at this; omega
          have HD := hid HD
          have hk : 2 ≤ s.size := by omega
          by_cases hm0 : m = 0
          · have HE := hid (numeric_zero HB.out.1 HB.out.2 (hm.trans hm0))
            subst hm0
            clear hm hV
            go_enter Tryd.func39, Tryd.ntmps39
            go_wp2_with fail
            refine (HP.out _).mono ?_
            rintro e w' ⟨rfl, rfl⟩
            go_wp2_with fail
            refine (HD.out _).mono ?_
            rintro e w' ⟨rfl, rfl⟩
            go_wp2
            go_ret3
            exact ⟨HE.out.symm, rfl⟩
          · have HE := hid (numeric_yes H0.out H1.out HB.out.1 HB.out.2 ⟨hm, hV⟩ hm0)
            have t0 : ((m : Int) == 0) = false := beq_eq_false_iff_ne.2 (by omega)
            clear hm hV hm0
            go_enter Tryd.func39, Tryd.ntmps39
            go_wp2_with fail
            refine (HP.out _).mono ?_
            rintro e w' ⟨rfl, rfl⟩
            go_wp2_with fail
            refine (HD.out _).mono ?_
            rintro e w' ⟨rfl, rfl⟩
            go_wp2
            go_ret3
            exact ⟨HE.out.symm, rfl⟩
    · have hb : baseOf (s.data.toList.drop 1) = 10 ∧ headOf (s.data.toList.drop 1) = 1 := by
        have hx : isX (s.data.toList.drop 1) = false := by
          unfold isX
          rw [List.length_drop, show U8.B (s.data.toList.drop 1) 1 = U8.B s.data.toList 2 from U8.B_drop _ _ _]
          exact decide_eq_false (by omega)
        unfold baseOf headOf
        rw [hx]
        exact ⟨rfl, rfl⟩
      have HB := hid hb
      have hd1 : decide ((2 : Int) < (s.size : Int)) = false := decide_eq_false (by omega)
      clear hb
      have HD := fun w => rdigits10_any (s.extract 2 s.size) w (by rw [size_eq, extract_drop, List.length_drop]; omega)
      rw [extract_drop] at HD
      obtain ⟨m, hm⟩ : ∃ m, (run 10 (s.data.toList.drop 2)).length = m := ⟨_, rfl⟩
      obtain ⟨V, hV⟩ : ∃ V, min (valL 10 (run 10 (s.data.toList.drop 2)) : Int) 100000000 = V := ⟨_, rfl⟩
      rw [digitsV_eq ⟨hm, hV⟩] at HD
      have hml : m ≤ 1000000 := by have := run_le 10 (s.data.toList.drop 2); rw [List.length_drop] at this; omega
      have HD := hid HD
      have hk : 2 ≤ s.size := by omega
      by_cases hm0 : m = 0
      · have HE := hid (numeric_zero HB.out.1 HB.out.2 (hm.trans hm0))
        subst hm0
        clear hm hV
        go_enter Tryd.func39, Tryd.ntmps39
        go_wp2_with fail
        refine (HP.out _).mono ?_
        rintro e w' ⟨rfl, rfl⟩
        go_wp2_with fail
        refine (HD.out _).mono ?_
        rintro e w' ⟨rfl, rfl⟩
        go_wp2
        go_ret3
        exact ⟨HE.out.symm, rfl⟩
      · have HE := hid (numeric_yes H0.out H1.out HB.out.1 HB.out.2 ⟨hm, hV⟩ hm0)
        have t0 : ((m : Int) == 0) = false := beq_eq_false_iff_ne.2 (by omega)
        clear hm hV hm0
        go_enter Tryd.func39, Tryd.ntmps39
        go_wp2_with fail
        refine (HP.out _).mono ?_
        rintro e w' ⟨rfl, rfl⟩
        go_wp2_with fail
        refine (HD.out _).mono ?_
        rintro e w' ⟨rfl, rfl⟩
        go_wp2
        go_ret3
        exact ⟨HE.out.symm, rfl⟩
  · rw [decide_eq_false h] at HP
    have hv : numericE s.data.toList = .returned (.tuple #[.int .i64 0, .int .i64 0, .int .i64 0]) := by
      unfold numericE numericV
      rw [if_neg]
      · rfl
      · rintro ⟨a, b, c⟩
        have hd := digs_le c
        rw [List.length_drop, U8.B_drop] at hd
        exact h ⟨by omega, b, hd.2.2.2.1⟩
    rw [hv]
    have HP := hid HP
    clear h hv
    go_enter Tryd.func39, Tryd.ntmps39
    go_wp2_with fail
    refine (HP.out _).mono ?_
    rintro e w' ⟨rfl, rfl⟩
    go_wp2
    go_ret3
    exact ⟨rfl, rfl⟩
end Go.Proofs.YthfaogodiefefaaDoor
