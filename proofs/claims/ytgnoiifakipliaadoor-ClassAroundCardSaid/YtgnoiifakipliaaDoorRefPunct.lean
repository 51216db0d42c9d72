/- Walks over the reference of layer 2: Punct. -/
import Derived.Test.YtgnoiifakipliaaDoorOwnRunes
import Derived.Test.YtgnoiifakipliaaDoorRefFold
import Derived.Laws.OwnMore
namespace Go.Proofs.YtgnoiifakipliaaDoor
open Go.RowKit Go.Lib
set_option maxRecDepth 100000
set_option linter.unusedVariables false

def punct1 : List Nat := [33, 47, 58, 64, 91, 96, 123, 126, 161, 169, 171, 172, 174, 177, 180, 180, 182, 184, 187, 187, 191, 191, 215, 215, 247, 247]
def punct2 : List Nat := [8208, 8231, 8240, 8286, 8352, 8384, 8592, 9215, 9472, 10175, 11776, 11869, 12289, 12291, 12296, 12320, 65040, 65049, 65072, 65131]
def punct3 : List Nat := [65281, 65295, 65306, 65312, 65339, 65344, 65371, 65381, 127744, 129791]
/-- The ranges of the marks, two numbers each. -/
def punctL : List Nat := punct1 ++ punct2 ++ punct3
def inPair (r : Int) (j : Nat) : Bool := decide ((punctL.getD (2 * j) 0 : Int) ≤ r ∧ r ≤ (punctL.getD (2 * j + 1) 0 : Int))
def punctR (r : Int) : Bool := (List.range 28).any (inPair r)
theorem punctR_no {r : Int} (h : ∀ j, j < 28 → inPair r j = false) : punctR r = false := by
  unfold punctR
  rw [List.any_eq_false]
  intro j hj
  rw [h j (List.mem_range.1 hj)]; simp
theorem punctR_yes {r : Int} {j : Nat} (hj : j < 28) (h : inPair r j = true) : punctR r = true := by
  unfold punctR
  rw [List.any_eq_true]
  exact ⟨j, List.mem_range.2 hj, h⟩
theorem lit_runes (w : World) (base : Nat) (F : List Nat) (n : Nat) (hn : F.length = n) (hb : base ≤ w.heap.size) (hm : n ≤ maxLen) :
    (w.alloc (.cells (runeRow F).toArray 21 (0, 0))).ownsRow base 21 1 (.slice (some ⟨w.heap.size, 0, none⟩) n n) n (runeRow F) := by
  have := World.ownsRow_lit (base := base) (e := 21) (size := 1) w (runeRow F).toArray n hb hm (by rw [List.size_toArray, runeRow_len]; omega)
  simpa using this
theorem row1 : (runeRow punct1).toArray = #[Value.int .i32 33, Value.int .i32 47, Value.int .i32 58, Value.int .i32 64, Value.int .i32 91, Value.int .i32 96, Value.int .i32 123, Value.int .i32 126, Value.int .i32 161, Value.int .i32 169, Value.int .i32 171, Value.int .i32 172, Value.int .i32 174, Value.int .i32 177, Value.int .i32 180, Value.int .i32 180, Value.int .i32 182, Value.int .i32 184, Value.int .i32 187, Value.int .i32 187, Value.int .i32 191, Value.int .i32 191, Value.int .i32 215, Value.int .i32 215, Value.int .i32 247, Value.int .i32 247] := rfl
theorem row2 : (runeRow punct2).toArray = #[Value.int .i32 8208, Value.int .i32 8231, Value.int .i32 8240, Value.int .i32 8286, Value.int .i32 8352, Value.int .i32 8384, Value.int .i32 8592, Value.int .i32 9215, Value.int .i32 9472, Value.int .i32 10175, Value.int .i32 11776, Value.int .i32 11869, Value.int .i32 12289, Value.int .i32 12291, Value.int .i32 12296, Value.int .i32 12320, Value.int .i32 65040, Value.int .i32 65049, Value.int .i32 65072, Value.int .i32 65131] := rfl
theorem row3 : (runeRow punct3).toArray = #[Value.int .i32 65281, Value.int .i32 65295, Value.int .i32 65306, Value.int .i32 65312, Value.int .i32 65339, Value.int .i32 65344, Value.int .i32 65371, Value.int .i32 65381, Value.int .i32 127744, Value.int .i32 129791] := rfl
theorem len1 : punct1.length = 26 := rfl
theorem len2 : punct2.length = 20 := rfl
theorem len3 : punct3.length = 10 := rfl

theorem row_cells {w : World} {base : Nat} {v : Value} {l : List Nat} {n : Nat} (h : w.ownsRow base 21 1 v l.length (runeRow l)) (hn : l.length = n) (h0 : 0 < n) :
    ∃ g cap, v = .slice (some ⟨g, 0, none⟩) n cap ∧ n ≤ cap ∧ cap ≤ maxLen ∧ ∀ j, j < n → w.cell? ⟨g, j, none⟩ = some (.int .i32 (l.getD j 0 : Nat)) := by
  subst hn
  obtain ⟨_, ⟨rfl, h1⟩ | ⟨g, cap, cur, rfl, hb, hg, hn, hc, hcs, ht⟩⟩ := h
  · omega
  · refine ⟨g, cap, rfl, hn, hc, fun j hj => ?_⟩
    have h1 : (runeRow l)[j]? = some (.int .i32 ((l[j] : Nat) : Int)) := by rw [runeRow_get, List.getElem?_eq_getElem hj]; rfl
    rw [← ht, Nat.mul_one, List.getElem?_take_of_lt hj] at h1
    simp only [World.cell?, hg]
    simp [List.getD, List.getElem?_eq_getElem hj] at h1 ⊢
    simpa using h1

set_option maxHeartbeats 2000000 in
theorem rpunct_any (r : Int) (w : World) :
    Calls Tryd.prog 20 #[.int .i32 r] w fun e w' => e = .returned (.bool (punctR r)) ∧ Below w.heap.size w w' := by
  have o1 := lit_runes w w.heap.size punct1 26 len1 (Nat.le_refl _) (by unfold maxLen; omega)
  have n2 := fun w => new_runes w punct2 (0, 0)
  have n3 := fun w => new_runes w punct3 (0, 0)
  rw [row1] at o1
  simp only [row2] at n2
  simp only [row3] at n3
  have hP1 := hid len1; have hP2 := hid len2; have hP3 := hid len3
  have hPL := hid (show punctL = punct1 ++ punct2 ++ punct3 from rfl)
  have hno := hid (@punctR_no r)
  have hyes := hid (show ∀ j, j < 28 → inPair r j = true → punctR r = true from fun j => punctR_yes)
  have hin := hid (show ∀ j, inPair r j = decide ((punctL.getD (2 * j) 0 : Int) ≤ r ∧ r ≤ (punctL.getD (2 * j + 1) 0 : Int)) from fun _ => rfl)
  have N2 := hid n2; have N3 := hid n3; have O1 := hid o1
  clear n2 n3 o1
  generalize punct1 = p1 at *
  generalize punct2 = p2 at *
  generalize punct3 = p3 at *
  generalize punctL = pl at *
  go_enter Tryd.func20, Tryd.ntmps20
  go_wp2_with (at_builtin; refine append_runes rfl _ _ rfl w.heap.size _ p1 rfl (by rw [hP1.out]; exact O1.out.alloc _) ⟨w.heap.size + 1, 0, none⟩ 20 20 p2 rfl hP2.out (by simpa using N2.out (w.alloc _)) (by rw [hP1.out]; decide) (by simp; omega) ?_)
  intro v1 w1 hown1 hgr1
  have hP12 : (p1 ++ p2).length = 46 := by rw [List.length_append, hP1.out, hP2.out]
  have HP := hPL.out
  clear hPL
  replace hown1 : w1.ownsRow w.heap.size 21 1 v1 (p1 ++ p2).length (runeRow (p1 ++ p2)) := by rw [List.length_append]; exact hown1
  generalize p1 ++ p2 = q1 at *
  have hPL := hid HP
  have HQ := hid hP12
  clear hP12 HP
  have hb1 := (((Below.refl w.heap.size w).alloc (Nat.le_refl _) _).alloc (by simp) _).grown hgr1 (by simp; omega) (own_ge (O1.out.alloc (.cells #[] 0)))
  have hsz1 := hb1.size
  have HB1 := hid hb1
  clear O1 N2 hgr1 hb1
  go_wp2_with (at_builtin; refine append_runes rfl _ _ rfl w.heap.size _ q1 rfl (hown1.alloc _) ⟨w1.heap.size, 0, none⟩ 10 10 p3 rfl hP3.out (N3.out w1) (by rw [HQ.out]; decide) (by simp; omega) ?_)
  intro v2 w2 hown2 hgr2
  have hb2 := (HB1.out.alloc hsz1 _).grown hgr2 (by simp; omega) (own_ge (hown1.alloc (.cells #[] 0)))
  clear N3 hgr2 HB1 hown1
  have HP := hPL.out
  have hpl : pl.length = 56 := by rw [HP, List.length_append, HQ.out, hP3.out]
  replace hown2 : w2.ownsRow w.heap.size 21 1 v2 (q1 ++ p3).length (runeRow (q1 ++ p3)) := by rw [List.length_append]; exact hown2
  rw [← HP] at hown2
  obtain ⟨g, cap, rfl, hcap, hcm, hcell⟩ := row_cells hown2 hpl (by omega)
  have HCE := hid hcell
  have HB2 := hid hb2
  clear HP hpl hown2 hcell hP1 hP2 hP3 hPL hb2 hsz1
  unfold maxLen at hcm
  go_wp2
  go_loopw [5] (fun iv wr => ∃ i : Nat, iv = .int .i64 i ∧ i % 2 = 0 ∧ i ≤ 56 ∧ wr = w2 ∧ Hid (∀ j, 2 * j < i → inPair r j = false)) (fun iv _ => 56 - (RowKit.intOf iv).toNat)
  case atStart => exact ⟨0, rfl, rfl, by omega, rfl, hid (fun j hj => absurd hj (Nat.not_lt_zero _))⟩
  case round =>
    obtain ⟨i, rfl, hi2, hi, rfl, hI⟩ := hrel
    by_cases hlt : i < 56
    · have hq : 2 * (i / 2) = i := by omega
      have hinq := hin.out (i / 2)
      rw [hq] at hinq
      have c0 := HCE.out i hlt
      have c1 := HCE.out (i + 1) (by omega)
      obtain ⟨a, ha⟩ : ∃ a : Int, (pl.getD i 0 : Int) = a := ⟨_, rfl⟩
      obtain ⟨b, hb⟩ : ∃ b : Int, (pl.getD (i + 1) 0 : Int) = b := ⟨_, rfl⟩
      rw [ha] at c0 hinq
      rw [hb] at c1 hinq
      have hic : (i : Int) + 1 < (cap : Int) := by omega
      by_cases hab : a ≤ r ∧ r ≤ b
      · have HY := hid (hyes.out (i / 2) (by omega) (by rw [hinq]; exact decide_eq_true hab))
        obtain ⟨h1, h2⟩ := hab
        have d0 : decide (a ≤ r) = true := decide_eq_true h1
        have d1 : decide (r ≤ b) = true := decide_eq_true h2
        clear hinq ha hb hq h1 h2
        go_wp2
        go_ret
        exact ⟨by rw [HY.out]; rfl, HB2.out⟩
      · have HI2 : Hid (∀ j, 2 * j < i + 2 → inPair r j = false) := hid fun j hj => by
          by_cases hj2 : 2 * j < i
          · exact hI.out j hj2
          · obtain rfl : j = i / 2 := by omega
            rw [hinq]; exact decide_eq_false hab
        rcases (show r < a ∨ (a ≤ r ∧ b < r) by omega) with h1 | ⟨h1, h2⟩
        · have d0 : decide (a ≤ r) = false := decide_eq_false (by omega)
          clear hinq ha hb hq h1 hab
          go_wp2
          go_roundw
          case rel => exact ⟨i + 2, by go_num, by omega, by omega, by first | exact rfl | trivial, HI2⟩
          case measure => simp [RowKit.intOf]; omega
        · have d0 : decide (a ≤ r) = true := decide_eq_true h1
          have d1 : decide (r ≤ b) = false := decide_eq_false (by omega)
          clear hinq ha hb hq h1 h2 hab
          go_wp2
          go_roundw
          case rel => exact ⟨i + 2, by go_num, by omega, by omega, by first | exact rfl | trivial, HI2⟩
          case measure => simp [RowKit.intOf]; omega
    · have HN := hid (hno.out (fun j hj => hI.out j (by omega)))
      obtain rfl : i = 56 := by omega
      go_wp2
      go_ret
      exact ⟨by rw [HN.out]; rfl, HB2.out⟩
end Go.Proofs.YtgnoiifakipliaaDoor
