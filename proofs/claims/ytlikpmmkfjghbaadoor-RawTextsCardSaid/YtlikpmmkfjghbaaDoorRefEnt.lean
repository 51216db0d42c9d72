/- Walks over the reference of layer 3: beginnings, the character of a number. -/
import Derived.Test.YtlikpmmkfjghbaaDoorEntMore
import Derived.Test.YtlikpmmkfjghbaaDoorOwn
namespace Go.Proofs.YtlikpmmkfjghbaaDoor
open Go.RowKit Go.Lib Ent
set_option maxRecDepth 100000
set_option linter.unusedVariables false

theorem begins_eq (s p : ByteArray) (h : p.size ≤ s.size) : ((s.extract 0 p.size).toList == p.toList) = p.data.toList.isPrefixOf s.data.toList := by
  rw [toList_data, toList_data, extract_list, Bool.eq_iff_iff, beq_iff_eq, List.isPrefixOf_iff_prefix, List.prefix_iff_eq_take, size_list]
  exact ⟨fun h => h.symm, fun h => h.symm⟩
theorem begins_no (s p : ByteArray) (h : s.size < p.size) : p.data.toList.isPrefixOf s.data.toList = false := by
  cases hb : p.data.toList.isPrefixOf s.data.toList with
  | false => rfl
  | true =>
    have := (List.isPrefixOf_iff_prefix.1 hb).length_le
    rw [size_list, size_list] at this; omega
theorem rbegins_any (s p : ByteArray) (w : World) (hs : s.size ≤ 1000000) (hp : p.size ≤ 1000000) :
    Calls Tryd.prog 60 #[.string s, .string p] w fun e w' => e = .returned (.bool (p.data.toList.isPrefixOf s.data.toList)) ∧ w = w' := by
  by_cases h : p.size ≤ s.size
  · have hd : decide ((p.size : Int) ≤ (s.size : Int)) = true := by simp; exact h
    have HE := hid (begins_eq s p h)
    go_enter Tryd.func60, Tryd.ntmps60
    go_wp2
    go_ret
    exact ⟨ret_bool' HE.out, rfl⟩
  · have hd : decide ((p.size : Int) ≤ (s.size : Int)) = false := by simp; omega
    have HE := hid (begins_no s p (by omega))
    have h2 : s.size < p.size := by omega
    clear h
    go_enter Tryd.func60, Tryd.ntmps60
    go_wp2
    go_ret
    exact ⟨ret_bool' HE.out.symm, rfl⟩

theorem rrightI_any (n : Int) (w : World) :
    Calls Tryd.prog 62 #[.int .i64 n] w fun e w' => e = .returned (.bool (rightI n)) ∧ w = w' := by
  rcases (show n ≤ 0 ∨ (0 < n ∧ 1114111 < n) ∨ (0 < n ∧ n ≤ 1114111 ∧ n < 55296) ∨ (0 < n ∧ n ≤ 1114111 ∧ 55296 ≤ n ∧ n ≤ 57343) ∨ (0 < n ∧ n ≤ 1114111 ∧ 55296 ≤ n ∧ 57343 < n) by omega) with h | ⟨h1, h2⟩ | ⟨h1, h2, h3⟩ | ⟨h1, h2, h3, h4⟩ | ⟨h1, h2, h3, h4⟩
  · have e : rightI n = false := decide_eq_false (by omega)
    rw [e]; clear e
    go_enter Tryd.func62, Tryd.ntmps62
    go_wp2
    go_ret
    first | exact ⟨rfl, rfl⟩ | exact ⟨ret_bool' (by simp; omega), rfl⟩
  · have e : rightI n = false := decide_eq_false (by omega)
    rw [e]; clear e
    go_enter Tryd.func62, Tryd.ntmps62
    go_wp2
    go_ret
    first | exact ⟨rfl, rfl⟩ | exact ⟨ret_bool' (by simp; omega), rfl⟩
  · have e : rightI n = true := decide_eq_true (by omega)
    rw [e]; clear e
    go_enter Tryd.func62, Tryd.ntmps62
    go_wp2
    go_ret
    first | exact ⟨rfl, rfl⟩ | exact ⟨ret_bool' (by simp; omega), rfl⟩
  · have e : rightI n = false := decide_eq_false (by omega)
    rw [e]; clear e
    go_enter Tryd.func62, Tryd.ntmps62
    go_wp2
    go_ret
    first | exact ⟨rfl, rfl⟩ | exact ⟨ret_bool' (by simp; omega), rfl⟩
  · have e : rightI n = true := decide_eq_true (by omega)
    rw [e]; clear e
    go_enter Tryd.func62, Tryd.ntmps62
    go_wp2
    go_ret
    first | exact ⟨rfl, rfl⟩ | exact ⟨ret_bool' (by simp; omega), rfl⟩

theorem ret_i32 {a b : Int} (h : a = b) : Ending.returned (.int .i32 a) = .returned (.int .i32 b) := by rw [h]
theorem rwindow_any (w : World) :
    Calls Tryd.prog 63 #[] w fun e w' => ∃ g, e = .returned (.slice (some ⟨g, 0, none⟩) 32 32) ∧ Below w.heap.size w w' ∧ ∀ j, j < 32 → w'.cell? ⟨g, j, none⟩ = some (.int .i32 (win.getD j 0 : Nat)) := by
  go_enter Tryd.func63, Tryd.ntmps63
  go_wp2
  go_ret
  refine ⟨w.heap.size, rfl, (Below.refl _ _).alloc (Nat.le_refl _) _, fun j hj => ?_⟩
  refine (World.cell?_alloc_new _ _ _ _).trans ?_
  refine (show (((win.map fun (c : Nat) => Value.int .i32 (c : Int)).toArray)[j]? = some (.int .i32 (win.getD j 0 : Nat))) from ?_)
  have hl : j < win.length := hj
  rw [List.getElem?_toArray, List.getElem?_map, List.getElem?_eq_getElem hl, List.getD_eq_getElem?_getD, List.getElem?_eq_getElem hl]
  rfl
set_option maxHeartbeats 1000000 in
theorem rnumber_any (n : Int) (w : World) (wf : (Lit.int .i64 n).wf = true) :
    Calls Tryd.prog 46 #[.int .i64 n] w fun e w' => e = .returned (.int .i32 (numZ n)) ∧ Below w.heap.size w w' := by
  cases hr : rightI n with
  | false =>
    have e : numZ n = 65533 := by
      have h0 : ¬ (128 ≤ n ∧ n < 160) := by unfold rightI at hr; simp at hr; omega
      unfold numZ charZ
      rw [if_neg h0, hr]; rfl
    rw [e]
    have HR := hid (rrightI_any n w)
    rw [hr] at HR
    clear hr e
    go_enter Tryd.func46, Tryd.ntmps46
    go_wp2_with fail
    refine HR.out.mono ?_
    rintro e w' ⟨rfl, rfl⟩
    go_wp2
    go_ret
    exact ⟨rfl, Below.refl _ _⟩
  | true =>
    have hb : 0 < n ∧ n ≤ 1114111 := by unfold rightI at hr; simp at hr; omega
    obtain ⟨hb1, hb2⟩ := hb
    have HR := hid (rrightI_any n w)
    rw [hr] at HR
    by_cases hw : 128 ≤ n ∧ n < 160
    · obtain ⟨hw1, hw2⟩ := hw
      have hj : (n - 128).toNat < 32 := by omega
      have HC := ctl_win _ hj
      have e : numZ n = (ctl.getD (n - 128).toNat 0 : Nat) := by unfold numZ; rw [if_pos ⟨hw1, hw2⟩]
      have hjn : (n - 128).toNat + 128 = n.toNat := by omega
      rw [hjn] at HC
      rw [e]
      clear hr e hjn
      obtain ⟨m, hm⟩ : ∃ m, win.getD (n - 128).toNat 0 = m := ⟨_, rfl⟩
      rw [hm] at HC
      rw [HC.1]
      have HM := hid hm
      clear hm
      have d1 : decide ((128 : Int) ≤ n) = true := decide_eq_true (by omega)
      have d2 : decide (n ≤ 159) = true := decide_eq_true (by omega)
      have hn0 : 0 ≤ n - 128 := by omega
      have hn1 : n - 128 < 32 := by omega
      by_cases hz : m = 0
      · rw [if_pos hz]
        have ez : ((m : Int) != 0) = false := by rw [hz]; rfl
        clear HC hz
        go_enter Tryd.func46, Tryd.ntmps46
        go_wp2_with fail
        refine HR.out.mono ?_
        rintro e w' ⟨rfl, rfl⟩
        go_wp2_with fail
        refine (rwindow_any _).mono ?_
        rintro e w' ⟨g, rfl, hb, hc⟩
        have hcell := hc _ hj
        rw [HM.out] at hcell
        clear hc
        have H3 := hid hb
        clear hb
        go_wp2
        go_ret
        exact ⟨ret_i32 (by omega), H3.out⟩
      · rw [if_neg hz]
        have hlt := HC.2
        have ez : ((m : Int) != 0) = true := bne_iff_ne.2 (fun h => hz (by omega))
        clear HC hz
        go_enter Tryd.func46, Tryd.ntmps46
        go_wp2_with fail
        refine HR.out.mono ?_
        rintro e w' ⟨rfl, rfl⟩
        go_wp2_with fail
        refine (rwindow_any _).mono ?_
        rintro e w' ⟨g, rfl, hb, hc⟩
        have hcell := hc _ hj
        rw [HM.out] at hcell
        clear hc
        have H3 := hid hb
        clear hb
        go_wp2
        go_ret
        exact ⟨rfl, H3.out⟩
    · have e : numZ n = n := by unfold numZ charZ; rw [if_neg hw, if_pos hr]
      rw [e]
      clear e
      rcases (show n < 128 ∨ (128 ≤ n ∧ 159 < n) by omega) with h | ⟨h, h2⟩
      all_goals
        clear hw hr
        go_enter Tryd.func46, Tryd.ntmps46
        go_wp2_with fail
        refine HR.out.mono ?_
        rintro e w' ⟨rfl, rfl⟩
        go_wp2
        go_ret
        exact ⟨rfl, Below.refl _ _⟩
end Go.Proofs.YtlikpmmkfjghbaaDoor
