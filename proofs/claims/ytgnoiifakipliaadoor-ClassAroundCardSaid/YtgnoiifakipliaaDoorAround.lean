/- Walks: package class, Prev and Next. -/
import Derived.Test.YtgnoiifakipliaaDoorShelf
import Derived.Test.YtgnoiifakipliaaDoorLast
import Derived.Test.YtgnoiifakipliaaDoorRefAround
namespace Go.Proofs.YtgnoiifakipliaaDoor
open Go.RowKit Go.Lib
set_option maxRecDepth 100000
set_option linter.unusedVariables false

abbrev Tabs (w : World) : Prop := Utf8Tabs 1 2 w

theorem cprev_any (s : ByteArray) (i : Int) (w : World) (hs : s.size ≤ 4294967296) (hT : Tabs w) (hr : 0 < i → i ≤ (s.size : Int) → U8.right (s.data.toList.take i.toNat) = true) :
    Calls Tryd.prog 27 #[.string s, .int .i64 i] w fun e w' => e = .returned (.int .i32 (prevN s.data.toList i)) ∧ Below w.heap.size w w' := by
  have hsl := size_list s
  by_cases h0 : i ≤ 0
  · have e : prevN s.data.toList i = 10 := by unfold prevN; rw [if_pos (.inl h0)]
    rw [e]; clear e hT hr
    go_enter Tryd.func27, Tryd.ntmps27
    go_wp2
    go_ret
    exact ⟨rfl, Below.refl _ _⟩
  obtain ⟨k, rfl⟩ : ∃ k : Nat, i = k := ⟨i.toNat, by omega⟩
  have hk0 : 0 < k := by omega
  by_cases h1 : s.size < k
  · have e : prevN s.data.toList k = 10 := by unfold prevN; rw [if_pos (.inr (by omega))]
    rw [e]; clear e hT hr
    have d0 : decide ((k : Int) ≤ 0) = false := by simp; omega
    have d1 : decide ((s.size : Int) < (k : Int)) = true := by simp; omega
    clear h0
    go_enter Tryd.func27, Tryd.ntmps27
    go_wp2
    go_ret
    exact ⟨rfl, Below.refl _ _⟩
  have hks : k ≤ s.size := by omega
  have e : prevN s.data.toList k = lastC (s.data.toList.take k) := by unfold prevN; rw [if_neg (by omega)]; rfl
  rw [e]; clear e
  have d0 : decide ((k : Int) ≤ 0) = false := by simp; omega
  have d1 : decide ((s.size : Int) < (k : Int)) = false := by simp; omega
  have hne : s.data.toList.take k ≠ [] := by
    intro e
    have := congrArg List.length e
    rw [List.length_take, List.length_nil, hsl] at this
    omega
  have hl : (decodeLastL (s.data.toList.take k)).1 = lastC (s.data.toList.take k) := lastL_right _ (hr (by omega) (by omega)) hne
  have hsz := size_extract0 s k hks
  have hxl := extract_list s k
  obtain ⟨x, hx⟩ : ∃ x, s.extract 0 k = x := ⟨_, rfl⟩
  rw [hx] at hsz hxl
  have HD := Tryd.utf8_DecodeLastRuneInString x w (by omega) hT
  rw [hxl] at HD
  obtain ⟨q, hq⟩ : ∃ q, decodeLastL (s.data.toList.take k) = q := ⟨_, rfl⟩
  obtain ⟨q1, q2⟩ := q
  rw [hq] at HD
  have hl2 : q1 = lastC (s.data.toList.take k) := by rw [← hl]; show q1 = (decodeLastL (s.data.toList.take k)).1; rw [hq]
  rw [← hl2]
  have HD := hid HD
  clear h0 h1 hne hsz hxl hl hl2 hq hr hT
  have hksI : (k : Int) ≤ (s.size : Int) := by omega
  go_enter Tryd.func27, Tryd.ntmps27
  go_wp2_with (go_at_call 41; refine HD.out.mono ?_; rintro e w' ⟨rfl, hb⟩)
  go_ret
  exact ⟨rfl, hb⟩

theorem cnext_any (s : ByteArray) (i : Int) (w : World) (hs : s.size ≤ 4294967296) (hT : Tabs w) :
    Calls Tryd.prog 29 #[.string s, .int .i64 i] w fun e w' => e = .returned (.int .i32 (nextN s.data.toList i)) ∧ Below w.heap.size w w' := by
  have hsl := size_list s
  by_cases h0 : i < 0
  · have e : nextN s.data.toList i = 10 := by unfold nextN; rw [if_pos (.inl h0)]
    rw [e]; clear e hT
    go_enter Tryd.func29, Tryd.ntmps29
    go_wp2
    go_ret
    exact ⟨rfl, Below.refl _ _⟩
  obtain ⟨k, rfl⟩ : ∃ k : Nat, i = k := ⟨i.toNat, by omega⟩
  by_cases h1 : s.size ≤ k
  · have e : nextN s.data.toList k = 10 := by unfold nextN; rw [if_pos (.inr (by omega))]
    rw [e]; clear e hT
    have d0 : decide ((k : Int) < 0) = false := by simp
    have d1 : decide ((s.size : Int) ≤ (k : Int)) = true := by simp; omega
    clear h0
    go_enter Tryd.func29, Tryd.ntmps29
    go_wp2
    go_ret
    exact ⟨rfl, Below.refl _ _⟩
  have hks : k < s.size := by omega
  have e : nextN s.data.toList k = firstC (s.data.toList.drop k) := by unfold nextN; rw [if_neg (by omega)]; rfl
  rw [e]; clear e
  have d0 : decide ((k : Int) < 0) = false := by simp
  have d1 : decide ((s.size : Int) ≤ (k : Int)) = false := by simp; omega
  have hxl := extract_drop s k
  have hsz : (s.extract k s.size).size = s.size - k := by rw [size_eq, hxl, List.length_drop]; omega
  have hfi := decodeGo_first (s.extract k s.size) (by omega)
  rw [hxl] at hfi
  obtain ⟨x, hx⟩ : ∃ x, s.extract k s.size = x := ⟨_, rfl⟩
  rw [hx] at hfi
  have HD := Tryd.utf8_DecodeRuneInString x w hT
  obtain ⟨q, hq⟩ : ∃ q, Lib.decodeGo x = q := ⟨_, rfl⟩
  obtain ⟨q1, q2⟩ := q
  rw [hq] at HD hfi
  rw [← hfi]
  have HD := hid HD
  have hksI : (k : Int) ≤ (s.size : Int) := by omega
  clear h0 h1 hsz hxl hfi hq hT
  go_enter Tryd.func29, Tryd.ntmps29
  go_wp2_with (go_at_call 42; refine HD.out.mono ?_; rintro e w' ⟨rfl, hb⟩)
  go_ret
  exact ⟨rfl, hb⟩
end Go.Proofs.YtgnoiifakipliaaDoor
