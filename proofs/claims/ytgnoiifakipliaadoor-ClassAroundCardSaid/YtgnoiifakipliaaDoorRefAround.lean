/- Walks over the reference of layer 2: Prev, Next, Whole. -/
import Derived.Test.YtgnoiifakipliaaDoorRefText
import Derived.Test.YtgnoiifakipliaaDoorClass
namespace Go.Proofs.YtgnoiifakipliaaDoor
open Go.RowKit Go.Lib
set_option maxRecDepth 100000
set_option linter.unusedVariables false

/-- '[]rune(s)': a new row, whose first cells are the characters' numbers. -/
theorem conv_runes (w : World) (s : ByteArray) (h : s.size ≤ 70368744177664) : ∃ (cap : Nat) (C : Array Value),
    (convert 9 37 (.string s)).run Tryd.prog w = .ok (.slice (some ⟨w.heap.size, 0, none⟩) (runes s.data.toList).length cap) (w.drew.alloc (.cells C 21 (0, 0))) ∧
    (∀ j, j < (runes s.data.toList).length → C[j]? = some (.int .i32 ((runes s.data.toList).getD j 0 : Nat))) ∧ (runes s.data.toList).length ≤ cap ∧ cap ≤ maxLen := by
  have hsz : (Conv.runesFrom s s.size 0 #[]).size = (runes s.data.toList).length := by rw [runesFrom_all]; simp
  have hle := runes_length s.data.toList
  rw [size_list] at hle
  have hr := run_runes_of_string (P := Tryd.prog) w 9 37 21 s Tryd.underlying9 Tryd.underlying37 Tryd.underlying21 (by rw [hsz]; omega)
  rw [hsz] at hr
  refine ⟨_, _, hr, ?_, grownCap_ge _ _ _ _, grownCap_le_maxLen _ _ _ _ (by unfold maxLen; omega)⟩
  intro j hj
  rw [Array.getElem?_append_left (by rw [hsz]; exact hj), runesFrom_all, List.getElem?_toArray, List.getElem?_map, List.getElem?_eq_getElem hj]
  simp [List.getD, List.getElem?_eq_getElem hj]

def prevN (l : List UInt8) (i : Int) : Int := if i ≤ 0 ∨ (l.length : Int) < i then 10 else lastC (l.take i.toNat)
def nextN (l : List UInt8) (i : Int) : Int := if i < 0 ∨ (l.length : Int) ≤ i then 10 else firstC (l.drop i.toNat)

theorem rprev_any (s : ByteArray) (i : Int) (w : World) (hs : s.size ≤ 4294967296) :
    Calls Tryd.prog 28 #[.string s, .int .i64 i] w fun e w' => e = .returned (.int .i32 (prevN s.data.toList i)) ∧ Below w.heap.size w w' := by
  have hsl := size_list s
  by_cases h0 : i ≤ 0
  · have e : prevN s.data.toList i = 10 := by unfold prevN; rw [if_pos (.inl h0)]
    rw [e]; clear e
    go_enter Tryd.func28, Tryd.ntmps28
    go_wp2
    go_ret
    exact ⟨rfl, Below.refl _ _⟩
  obtain ⟨k, rfl⟩ : ∃ k : Nat, i = k := ⟨i.toNat, by omega⟩
  have hk0 : 0 < k := by omega
  by_cases h1 : s.size < k
  · have e : prevN s.data.toList k = 10 := by unfold prevN; rw [if_pos (.inr (by omega))]
    rw [e]; clear e
    have d0 : decide ((k : Int) ≤ 0) = false := by simp; omega
    have d1 : decide ((s.size : Int) < (k : Int)) = true := by simp; omega
    clear h0
    go_enter Tryd.func28, Tryd.ntmps28
    go_wp2
    go_ret
    exact ⟨rfl, Below.refl _ _⟩
  have hks : k ≤ s.size := by omega
  have e : prevN s.data.toList k = lastC (s.data.toList.take k) := by unfold prevN; rw [if_neg (by omega)]; rfl
  rw [e]; clear e
  have d0 : decide ((k : Int) ≤ 0) = false := by simp; omega
  have d1 : decide ((s.size : Int) < (k : Int)) = false := by simp; omega
  have hne : s.data.toList.take k ≠ [] := by
    intro e
    have := congrArg List.length e
    rw [List.length_take, List.length_nil, hsl] at this
    omega
  have hrn := runes_ne _ hne
  obtain ⟨m, hm⟩ : ∃ m, (runes (s.data.toList.take k)).length = m + 1 := ⟨(runes (s.data.toList.take k)).length - 1, by have := List.length_pos_iff.2 hrn; omega⟩
  have hlast : ((runes (s.data.toList.take k)).getD m 0 : Nat) = lastC (s.data.toList.take k) := by
    unfold lastC
    rw [List.getLast?_eq_getElem?, hm]
    simp [List.getD, List.getElem?_eq_getElem (show m < (runes (s.data.toList.take k)).length by omega)]
  have hsz := size_extract0 s k hks
  have hxl := extract_list s k
  obtain ⟨x, hx⟩ : ∃ x, s.extract 0 k = x := ⟨_, rfl⟩
  rw [hx] at hsz hxl
  have cv := fun w => conv_runes w x (by omega)
  rw [hxl] at cv
  obtain ⟨v, hv⟩ : ∃ v, lastC (s.data.toList.take k) = v := ⟨_, rfl⟩
  rw [hv] at hlast ⊢
  simp only [hm] at cv
  have CV := hid cv
  clear cv h0 h1 hne hrn hsz hxl hv
  go_enter Tryd.func28, Tryd.ntmps28
  obtain ⟨cap, C, cv1, cv2, cv3, cv4⟩ := CV.out w
  have c0 : (w.alloc (.cells C 21 (0, 0))).cell? ⟨w.heap.size, m, none⟩ = some (.int .i32 v) := by
    have := World.cell?_alloc_mark w C 21 (0, 0) m
    rw [cv2 m (by omega), hlast] at this
    exact this
  unfold maxLen at cv4
  have hm0 : (0 : Int) ≤ (m : Int) := by omega
  have hm1 : (m : Int) ≤ 9223372036854775806 := by omega
  have hmc : (m : Int) < (cap : Int) := by omega
  clear cv2 CV hm hlast cv3 cv4
  go_wp2
  go_ret
  exact ⟨rfl, (Below.refl _ w).drew.alloc (Nat.le_refl _) _⟩

theorem rnext_any (s : ByteArray) (i : Int) (w : World) (hs : s.size ≤ 4294967296) :
    Calls Tryd.prog 30 #[.string s, .int .i64 i] w fun e w' => e = .returned (.int .i32 (nextN s.data.toList i)) ∧ Below w.heap.size w w' := by
  have hsl := size_list s
  by_cases h0 : i < 0
  · have e : nextN s.data.toList i = 10 := by unfold nextN; rw [if_pos (.inl h0)]
    rw [e]; clear e
    go_enter Tryd.func30, Tryd.ntmps30
    go_wp2
    go_ret
    exact ⟨rfl, Below.refl _ _⟩
  obtain ⟨k, rfl⟩ : ∃ k : Nat, i = k := ⟨i.toNat, by omega⟩
  by_cases h1 : s.size ≤ k
  · have e : nextN s.data.toList k = 10 := by unfold nextN; rw [if_pos (.inr (by omega))]
    rw [e]; clear e
    have d0 : decide ((k : Int) < 0) = false := by simp
    have d1 : decide ((s.size : Int) ≤ (k : Int)) = true := by simp; omega
    clear h0
    go_enter Tryd.func30, Tryd.ntmps30
    go_wp2
    go_ret
    exact ⟨rfl, Below.refl _ _⟩
  have hks : k < s.size := by omega
  have e : nextN s.data.toList k = firstC (s.data.toList.drop k) := by unfold nextN; rw [if_neg (by omega)]; rfl
  rw [e]; clear e
  have d0 : decide ((k : Int) < 0) = false := by simp
  have d1 : decide ((s.size : Int) ≤ (k : Int)) = false := by simp; omega
  have hne : s.data.toList.drop k ≠ [] := U8.drop_ne (by omega)
  have hrn := runes_ne _ hne
  obtain ⟨m, hm⟩ : ∃ m, (runes (s.data.toList.drop k)).length = m + 1 := ⟨(runes (s.data.toList.drop k)).length - 1, by have := List.length_pos_iff.2 hrn; omega⟩
  have hlast : ((runes (s.data.toList.drop k)).getD 0 0 : Nat) = firstC (s.data.toList.drop k) := by
    unfold firstC
    rw [List.head?_eq_getElem?]
    simp [List.getD, List.getElem?_eq_getElem (show 0 < (runes (s.data.toList.drop k)).length by omega)]
  have hxl := extract_drop s k
  have hsz : (s.extract k s.size).size ≤ s.size := by rw [size_eq, hxl, List.length_drop]; omega
  obtain ⟨x, hx⟩ : ∃ x, s.extract k s.size = x := ⟨_, rfl⟩
  rw [hx] at hsz hxl
  have cv := fun w => conv_runes w x (by omega)
  rw [hxl] at cv
  obtain ⟨v, hv⟩ : ∃ v, firstC (s.data.toList.drop k) = v := ⟨_, rfl⟩
  rw [hv] at hlast ⊢
  simp only [hm] at cv
  have CV := hid cv
  have hksI : (k : Int) ≤ (s.size : Int) := by omega
  clear cv h0 h1 hne hrn hsz hxl hv
  go_enter Tryd.func30, Tryd.ntmps30
  obtain ⟨cap, C, cv1, cv2, cv3, cv4⟩ := CV.out w
  have c0 : (w.alloc (.cells C 21 (0, 0))).cell? ⟨w.heap.size, 0, none⟩ = some (.int .i32 v) := by
    have := World.cell?_alloc_mark w C 21 (0, 0) 0
    rw [cv2 0 (by omega), hlast] at this
    exact this
  unfold maxLen at cv4
  have hm0 : (0 : Int) ≤ (m : Int) := by omega
  have hm1 : (m : Int) ≤ 9223372036854775806 := by omega
  have hmc : (m : Int) < (cap : Int) := by omega
  clear cv2 CV hm hlast cv3 cv4
  go_wp2
  go_ret
  exact ⟨rfl, (Below.refl _ w).drew.alloc (Nat.le_refl _) _⟩

/-- Does a character begin at i, or the end? -/
def wholeN (l : List UInt8) (i : Int) : Bool := decide (0 ≤ i ∧ i ≤ (l.length : Int)) && U8.right (l.take i.toNat)
theorem rwhole_any (s : ByteArray) (i : Int) (w : World) (hs : s.size ≤ 4294967296) :
    Calls Tryd.prog 26 #[.string s, .int .i64 i] w fun e w' => e = .returned (.bool (wholeN s.data.toList i)) ∧ Below w.heap.size w w' := by
  have hsl := size_list s
  by_cases h0 : i < 0
  · have e : wholeN s.data.toList i = false := by unfold wholeN; rw [decide_eq_false (by omega)]; rfl
    rw [e]; clear e
    go_enter Tryd.func26, Tryd.ntmps26
    go_wp2
    go_ret
    exact ⟨rfl, Below.refl _ _⟩
  obtain ⟨k, rfl⟩ : ∃ k : Nat, i = k := ⟨i.toNat, by omega⟩
  have d0 : decide ((0 : Int) ≤ (k : Int)) = true := by simp
  by_cases h1 : s.size < k
  · have e : wholeN s.data.toList k = false := by unfold wholeN; rw [decide_eq_false (by omega)]; rfl
    rw [e]; clear e
    have d1 : decide ((k : Int) ≤ (s.size : Int)) = false := by simp; omega
    clear h0
    go_enter Tryd.func26, Tryd.ntmps26
    go_wp2
    go_ret
    exact ⟨rfl, Below.refl _ _⟩
  have d1 : decide ((k : Int) ≤ (s.size : Int)) = true := by simp; omega
  have e : wholeN s.data.toList k = U8.right (s.data.toList.take k) := by unfold wholeN; rw [decide_eq_true (by omega)]; rfl
  rw [e]; clear e
  have hks : k ≤ s.size := by omega
  have hksI : (k : Int) ≤ (s.size : Int) := by omega
  have hsz := size_extract0 s k hks
  have hxl := extract_list s k
  obtain ⟨x, hx⟩ : ∃ x, s.extract 0 k = x := ⟨_, rfl⟩
  rw [hx] at hsz hxl
  have HR := hid (rright_any x w (by omega))
  rw [hxl] at HR
  clear h0 h1 hsz hxl hks
  go_enter Tryd.func26, Tryd.ntmps26
  go_wp2_with fail
  refine HR.out.mono ?_
  rintro e w1 ⟨rfl, b1⟩
  go_wp2
  go_ret
  exact ⟨rfl, b1⟩
end Go.Proofs.YtgnoiifakipliaaDoor
