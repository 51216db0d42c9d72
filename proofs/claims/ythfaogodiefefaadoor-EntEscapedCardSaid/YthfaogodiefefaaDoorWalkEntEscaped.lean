/- The walk of the statement EntEscaped. -/
import Derived.Test.YthfaogodiefefaaDoorKnownE
import Derived.Test.YthfaogodiefefaaDoorEscMore
namespace Go.Proofs.YthfaogodiefefaaDoor.entEscaped
open Go.ChangeShapes Go.WideShapes Go.ChangeAt Go.RowKit Go.Lib
open Go.ChangeMaps (open_string shut_string)
set_option maxRecDepth 100000
set_option linter.unusedVariables false

set_option maxHeartbeats 2000000 in
theorem walk (w : World) (hT : EntW w) (s : ByteArray) (ws : s.size ≤ maxLen) (x : Bool) :
    Calls Tryd.prog 7 #[.string s, .bool x] w fun e w' => e = .returned (.bool true) ∧ Below w.heap.size w w' := by
  unfold maxLen at ws
  have HT := hid hT
  clear hT
  by_cases hs : 3000 < s.size
  · have hd : decide ((3000 : Int) < (s.size : Int)) = true := by simp; omega
    go_enter Tryd.func7, Tryd.ntmps7
    go_wp2
    go_ret
    exact ⟨rfl, Below.refl _ _⟩
  · have hd : decide ((3000 : Int) < (s.size : Int)) = false := by simp; omega
    have hsl := size_list s
    go_enter Tryd.func7, Tryd.ntmps7
    go_wp2
    go_loopg [5, 6, 7] s.size (fun g tv rv iv wr => ∃ (k : Nat) (T R : ByteArray), k + g = s.size ∧ iv = .int .i64 k ∧ tv = .string T ∧ rv = .string R ∧ Hid (EscI s.data.toList k T R) ∧ wr = w)
    case atStart => exact ⟨0, ⟨#[]⟩, ⟨#[]⟩, by omega, rfl, rfl, rfl, hid (EscI.start _), rfl⟩
    case round =>
      obtain ⟨k, T, R, hk, rfl, rfl, rfl, hI, rfl⟩ := hrel
      have hle := hI.out.le
      rw [hsl] at hle
      obtain ⟨hT1, hR1⟩ := hle
      by_cases hlt : k < s.size
      · have hkl : k < s.data.toList.length := by rw [hsl]; exact hlt
        have hg := get_of s k hlt
        rw [U8.B_eq (List.getElem?_eq_getElem hkl)] at hg
        obtain ⟨c, hc⟩ : ∃ c, (s[k]'hlt) = c := ⟨_, rfl⟩
        rw [hc] at hg
        have hX := one_list s k hkl
        have hXs : (s.extract k (k + 1)).size = 1 := by rw [size_eq, hX]; rfl
        have d1 : decide (k < s.size) = true := decide_eq_true hlt
        by_cases h38 : c.toNat = 38
        · have t0 : ((c.toNat : Int) == 38) = true := by rw [h38]; rfl
          have HN := hid (hI.out.amp hkl (UInt8.toNat_inj.1 (by rw [← hg, h38]; rfl)))
          clear hX hg h38 hI hXs
          go_wp2
          go_roundg (s.size - (k + 1))
          case measure => omega
          case rel => exact ⟨k + 1, _, _, by omega, by go_num, rfl, rfl, HN, rfl⟩
        · have t0 : ((c.toNat : Int) == 38) = false := beq_eq_false_iff_ne.2 (by omega)
          have HN := hid (hI.out.other hkl (fun e => h38 (by rw [hg, e]; rfl)) hX)
          have q1 : (k : Int) + 1 ≤ (s.size : Int) := by omega
          have q2 : (k : Int) ≤ (k : Int) + 1 := by omega
          have q3 : k + 1 ≤ s.size := by omega
          clear hX hg h38 hI
          go_wp2
          go_roundg (s.size - (k + 1))
          case measure => omega
          case rel => exact ⟨k + 1, _, _, by omega, by go_num, rfl, rfl, HN, rfl⟩
      · have hk2 : s.data.toList.take k = s.data.toList := List.take_of_length_le (by rw [hsl]; omega)
        have d1 : decide (k < s.size) = false := decide_eq_false hlt
        have hI2 := hI.out
        unfold EscI at hI2
        rw [hk2] at hI2
        have hsA : s = ⟨s.data.toList.toArray⟩ := by apply ByteArray.ext; apply Array.ext'; rfl
        have hRA : R = ⟨R.data.toList.toArray⟩ := by apply ByteArray.ext; apply Array.ext'; rfl
        have H1 := fun w h => decode_any T x w (by omega) h
        rw [hI2.1, Ent.decode_esc, ← hsA] at H1
        have H2 := fun w h => decode_any R x w (by omega) h
        have hdr : Ent.decode x R.data.toList = R.data.toList := by rw [hI2.2]; exact Ent.decode_bare _ _
        rw [hdr, ← hRA] at H2
        have H1 := hid H1
        have H2 := hid H2
        have HK := hid (fun w h => known3_any w h)
        clear hI2 hk2 hI hdr hsA hRA
        go_wp2_with fail
        refine (HK.out _ HT.out).mono ?_
        rintro e w1 ⟨rfl, b1⟩
        go_wp2_with fail
        refine (H1.out _ (ent_below HT.out b1)).mono ?_
        rintro e w2 ⟨rfl, b2⟩
        have c2 := b1.trans (b2.mono b1.size)
        clear b1 b2
        go_wp2_with fail
        refine (H2.out _ (ent_below HT.out c2)).mono ?_
        rintro e w3 ⟨rfl, b3⟩
        have c3 := c2.trans (b3.mono c2.size)
        clear c2 b3
        go_wp2
        go_ret
        exact ⟨ret_bool' (by simp), c3⟩
end Go.Proofs.YthfaogodiefefaaDoor.entEscaped
