/- The walk of the statement EntLongest. -/
import Derived.Test.YthfaogodiefefaaDoorKnownE
import Derived.Test.YthfaogodiefefaaDoorNamed
namespace Go.Proofs.YthfaogodiefefaaDoor.entLongest
open Go.ChangeShapes Go.WideShapes Go.ChangeAt Go.RowKit Go.Lib
open Go.ChangeMaps (open_string shut_string)
set_option maxRecDepth 100000
set_option linter.unusedVariables false

set_option maxHeartbeats 2000000 in
theorem walk (w : World) (hT : EntW w) (s : ByteArray) (ws : s.size ≤ maxLen) :
    Calls Tryd.prog 9 #[.string s] w fun e w' => e = .returned (.bool true) ∧ Below w.heap.size w w' := by
  unfold maxLen at ws
  have HT := hid hT
  clear hT
  by_cases hs : 3000 < s.size
  · have hd : decide ((3000 : Int) < (s.size : Int)) = true := by simp; omega
    go_enter Tryd.func9, Tryd.ntmps9
    go_wp2_with fail
    refine (known3_any _ HT.out).mono ?_
    rintro e w1 ⟨rfl, b1⟩
    go_wp2
    go_ret
    exact ⟨rfl, b1⟩
  · have hd : decide ((3000 : Int) < (s.size : Int)) = false := by simp; omega
    have H1 := fun w => named_any s w (by omega)
    have hnc := Ent.named_cases s.data.toList
    have hag := Ent.named_again s.data.toList
    have hbl := Ent.named_blank s.data.toList
    obtain ⟨i, n, hin⟩ : ∃ i n, Ent.named s.data.toList = (i, n) := ⟨_, _, rfl⟩
    rw [namedV_eq (Ent.named_best s.data.toList), hin] at H1
    rw [hin] at hnc hag hbl
    simp only at H1 hnc hag hbl
    have hsl := size_list s
    obtain ⟨n1, n2, n3, n4⟩ := hnc
    have hns : n ≤ s.size := by omega
    obtain ⟨U, hU⟩ : ∃ U : ByteArray, U = s.extract 0 n := ⟨_, rfl⟩
    have hUl : U.data.toList = s.data.toList.take n := by rw [hU, extract_list]
    have hUs : U.size = n := by rw [hU, size_extract0 s n hns]
    obtain ⟨V, hV⟩ : ∃ V : ByteArray, V = s.extract 0 n ++ ⟨#[32]⟩ := ⟨_, rfl⟩
    have hVl : V.data.toList = s.data.toList.take n ++ [32] := by rw [hV, ByteArray.data_append]; simp
    have hVs : V.size = n + 1 := by rw [size_eq, hVl, List.length_append, List.length_take]; simp; omega
    have H2 := fun w => named_any U w (by omega)
    have H3 := fun w => named_any V w (by omega)
    rw [hU] at H2
    rw [hV] at H3
    rw [show namedV (s.extract 0 n).data.toList = .returned (.tuple #[.string ⟨i.toArray⟩, .int .i64 n]) by unfold namedV; rw [extract_list, hag]] at H2
    rw [show namedV (s.extract 0 n ++ (⟨#[32]⟩ : ByteArray)).data.toList = .returned (.tuple #[.string ⟨i.toArray⟩, .int .i64 n]) by unfold namedV; rw [← hV, hVl, hbl]] at H3
    have hex : (s.extract 0 n).size = n := size_extract0 s n hns
    clear hag hbl hin hU hUl hUs hV hVl hVs hsl n1 n3
    by_cases hn0 : n = 0
    · obtain rfl := n4.1 hn0
      subst hn0
      have hx0 : s.extract 0 0 = ByteArray.empty := by
        apply ByteArray.ext; apply Array.ext'
        rw [extract_list]; rfl
      have hx1 : ByteArray.empty ++ (⟨#[32]⟩ : ByteArray) = ⟨#[32]⟩ := by
        apply ByteArray.ext; apply Array.ext'
        rw [ByteArray.data_append]; rfl
      have d0 : decide ((s.size : Int) < 0) = false := decide_eq_false (by omega)
      rw [hx0] at H2
      rw [hx0, hx1] at H3
      have H1 := hid H1
      have H2 := hid H2
      have H3 := hid H3
      clear n4 hx0 hx1
      go_enter Tryd.func9, Tryd.ntmps9
      go_wp2_with fail
      refine (known3_any _ HT.out).mono ?_
      rintro e w1 ⟨rfl, b1⟩
      go_wp2_with fail
      refine (H1.out _).mono ?_
      rintro e w2 ⟨rfl, b2⟩
      have c2 := b1.trans (b2.mono b1.size)
      clear b1 b2
      go_wp2_with fail
      refine (H2.out _).mono ?_
      rintro e w3 ⟨rfl, b3⟩
      have c3 := c2.trans (b3.mono c2.size)
      clear c2 b3
      go_wp2_with fail
      refine (H3.out _).mono ?_
      rintro e w4 ⟨rfl, b4⟩
      have c4 := c3.trans (b4.mono c3.size)
      clear c3 b4
      go_wp2
      go_ret
      exact ⟨ret_bool' (by simp), c4⟩
    · have H1 := hid H1
      have H2 := hid H2
      have H3 := hid H3
      have hi : i ≠ [] := fun e => hn0 (n4.2 e)
      have hi2 : i.isEmpty = false := by
        cases i with
        | nil => exact absurd rfl hi
        | cons a b => rfl
      have tz : ((n : Int) == 0) = false := beq_eq_false_iff_ne.2 (by omega)
      have d0 : decide ((n : Int) < 0) = false := decide_eq_false (by omega)
      have d1 : decide (s.size < n) = false := decide_eq_false (by omega)
      have d2 : decide (0 < n) = true := decide_eq_true (by omega)
      have d3 : decide ((0 : Int) < (n : Int)) = true := decide_eq_true (by omega)
      clear n4 hn0 hi
      go_enter Tryd.func9, Tryd.ntmps9
      go_wp2_with fail
      refine (known3_any _ HT.out).mono ?_
      rintro e w1 ⟨rfl, b1⟩
      go_wp2_with fail
      refine (H1.out _).mono ?_
      rintro e w2 ⟨rfl, b2⟩
      have c2 := b1.trans (b2.mono b1.size)
      clear b1 b2
      go_wp2_with fail
      refine (H2.out _).mono ?_
      rintro e w3 ⟨rfl, b3⟩
      have c3 := c2.trans (b3.mono c2.size)
      clear c2 b3
      go_wp2_with fail
      refine (H3.out _).mono ?_
      rintro e w4 ⟨rfl, b4⟩
      have c4 := c3.trans (b4.mono c3.size)
      clear c3 b4
      go_wp2
      go_ret
      exact ⟨ret_bool' (by simp), c4⟩
end Go.Proofs.YthfaogodiefefaaDoor.entLongest
