/- Walks over the reference of layer 1: Newlines. -/
import Derived.Test.YtjliphkpmpcjaaaDoorRefText
import Derived.Test.YtjliphkpmpcjaaaDoorNl
namespace Go.Proofs.YtjliphkpmpcjaaaDoor
open Go.RowKit Go.Lib
set_option maxRecDepth 100000
set_option linter.unusedVariables false

theorem drop_cons (s : ByteArray) (k : Nat) (h : k < s.size) : s.data.toList.drop k = s[k]'h :: s.data.toList.drop (k + 1) := by
  rw [List.drop_eq_getElem_cons (by rw [size_list]; exact h)]
  rfl
def NInv (l : List UInt8) (k : Nat) (acc : List UInt8) : Prop := acc ++ Nl.nl (l.drop k) = Nl.nl l ∧ acc.length ≤ k
theorem NInv.other {s : ByteArray} {k : Nat} {acc : List UInt8} (h : NInv s.data.toList k acc) (hk : k < s.size) (hc : s[k]'hk ≠ 13) : NInv s.data.toList (k + 1) (acc ++ [s[k]'hk]) := by
  obtain ⟨h1, h2⟩ := h
  rw [drop_cons s k hk, Nl.nl_other _ hc] at h1
  exact ⟨by rw [← h1]; simp, by simp; omega⟩
theorem NInv.cr {s : ByteArray} {k : Nat} {acc : List UInt8} (h : NInv s.data.toList k acc) (hk : k < s.size) (hc : s[k]'hk = 13) (hn : ∀ h2 : k + 1 < s.size, s[k + 1]'h2 ≠ 10) : NInv s.data.toList (k + 1) (acc ++ [10]) := by
  obtain ⟨h1, h2⟩ := h
  rw [drop_cons s k hk, hc, Nl.nl_cr] at h1
  · exact ⟨by rw [← h1]; simp, by simp; omega⟩
  · by_cases h3 : k + 1 < s.size
    · rw [drop_cons s (k + 1) h3]
      intro e
      simp at e
      exact hn h3 e
    · rw [List.drop_of_length_le (by rw [size_list]; omega)]; simp
theorem NInv.crlf {s : ByteArray} {k : Nat} {acc : List UInt8} (h : NInv s.data.toList k acc) (hk : k < s.size) (hc : s[k]'hk = 13) (h2 : k + 1 < s.size) (hn : s[k + 1]'h2 = 10) : NInv s.data.toList (k + 2) (acc ++ [10]) := by
  obtain ⟨h1, h3⟩ := h
  rw [drop_cons s k hk, hc, drop_cons s (k + 1) h2, hn, Nl.nl_crlf] at h1
  exact ⟨by rw [← h1]; simp, by simp; omega⟩
theorem NInv.done {s : ByteArray} {k : Nat} {acc : List UInt8} (h : NInv s.data.toList k acc) (hk : ¬ k < s.size) : acc = Nl.nl s.data.toList := by
  obtain ⟨h1, _⟩ := h
  rwa [List.drop_of_length_le (by rw [size_list]; omega), Nl.nl_nil, List.append_nil] at h1

set_option maxHeartbeats 1000000 in
theorem rnl_any (s : ByteArray) (w : World) (hs : s.size ≤ 4294967296) :
    Calls Tryd.prog 17 #[.string s] w fun e w' => e = .returned (.string ⟨(Nl.nl s.data.toList).toArray⟩) ∧ Below w.heap.size w w' := by
  go_enter Tryd.func17, Tryd.ntmps17
  go_wp2
  go_loopw [3, 4] (fun v i wr => ∃ (k : Nat) (acc : List UInt8), i = .int .i64 k ∧ k ≤ s.size ∧ wr.ownsRow w.heap.size 5 1 v acc.length (byteCells acc) ∧ Below w.heap.size w wr ∧ Hid (NInv s.data.toList k acc)) (fun _ i _ => s.size - (RowKit.intOf i).toNat)
  case atStart => exact ⟨0, [], rfl, by omega, World.ownsRow_nil _ _ _ _, Below.refl _ _, hid ⟨by simp, by simp⟩⟩
  case round =>
    obtain ⟨k, acc, rfl, hk, hown, hbw, hI⟩ := hrel
    have hacc := hI.out.2
    have hszr := hbw.size
    by_cases hlt : k < s.size
    · obtain ⟨x, hx⟩ : ∃ x, s[k]'hlt = x := ⟨_, rfl⟩
      by_cases hc : x = 13
      · have t0 : ((x.toNat : Int) != 13) = false := by rw [hc]; rfl
        have hln : (acc ++ [10]).length = acc.length + 1 := by simp
        have HLN := hid hln
        clear hln
        by_cases h2 : k + 1 < s.size
        · obtain ⟨y, hy⟩ : ∃ y, s[k + 1]'h2 = y := ⟨_, rfl⟩
          have hdI : ((k : Int) + 1) < (s.size : Int) := by omega
          by_cases hy10 : y = 10
          · have t1 : ((y.toNat : Int) == 10) = true := by rw [hy10]; rfl
            have HN := hid (hI.out.crlf hlt (by rw [hx]; exact hc) h2 (by rw [hy]; exact hy10))
            clear hc hy10
            go_wp2_with (at_builtin; refine append_bytes rfl _ _ rfl w.heap.size _ acc rfl (hown.alloc _) ⟨wr.heap.size, 0, none⟩ 1 1 [10] rfl rfl (new_bytes wr [10] _ (0, 0) rfl) (by omega) (by simp; omega) ?_)
            intro v' w' hown2 hgr
            have hown3 : w'.ownsRow w.heap.size 5 1 v' (acc ++ [10]).length (byteCells (acc ++ [10])) := by rw [HLN.out]; exact hown2
            have hbw3 := (hbw.alloc hszr _).grown hgr (by simp; omega) (own_ge (hown.alloc (.cells #[] 0)))
            clear hown2 hgr hown hbw
            go_wp2
            go_roundw
            case rel => exact ⟨k + 2, acc ++ [10], by go_num, by omega, hown3, hbw3, HN⟩
            case measure => simp [RowKit.intOf]; omega
          · have t1 : ((y.toNat : Int) == 10) = false := by
              rw [beq_eq_false_iff_ne]; intro e; exact hy10 (UInt8.toNat_inj.1 (by show y.toNat = 10; omega))
            have HN := hid (hI.out.cr hlt (by rw [hx]; exact hc) (fun _ => by rw [hy]; exact hy10))
            clear hc hy10
            go_wp2_with (at_builtin; refine append_bytes rfl _ _ rfl w.heap.size _ acc rfl (hown.alloc _) ⟨wr.heap.size, 0, none⟩ 1 1 [10] rfl rfl (new_bytes wr [10] _ (0, 0) rfl) (by omega) (by simp; omega) ?_)
            intro v' w' hown2 hgr
            have hown3 : w'.ownsRow w.heap.size 5 1 v' (acc ++ [10]).length (byteCells (acc ++ [10])) := by rw [HLN.out]; exact hown2
            have hbw3 := (hbw.alloc hszr _).grown hgr (by simp; omega) (own_ge (hown.alloc (.cells #[] 0)))
            clear hown2 hgr hown hbw
            go_wp2
            go_roundw
            case rel => exact ⟨k + 1, acc ++ [10], by go_num, by omega, hown3, hbw3, HN⟩
            case measure => simp [RowKit.intOf]; omega
        · have hdI : decide (((k : Int) + 1) < (s.size : Int)) = false := by simp; omega
          have HN := hid (hI.out.cr hlt (by rw [hx]; exact hc) (fun h => absurd h h2))
          clear hc
          go_wp2_with (at_builtin; refine append_bytes rfl _ _ rfl w.heap.size _ acc rfl (hown.alloc _) ⟨wr.heap.size, 0, none⟩ 1 1 [10] rfl rfl (new_bytes wr [10] _ (0, 0) rfl) (by omega) (by simp; omega) ?_)
          intro v' w' hown2 hgr
          have hown3 : w'.ownsRow w.heap.size 5 1 v' (acc ++ [10]).length (byteCells (acc ++ [10])) := by rw [HLN.out]; exact hown2
          have hbw3 := (hbw.alloc hszr _).grown hgr (by simp; omega) (own_ge (hown.alloc (.cells #[] 0)))
          clear hown2 hgr hown hbw
          go_wp2
          go_roundw
          case rel => exact ⟨k + 1, acc ++ [10], by go_num, by omega, hown3, hbw3, HN⟩
          case measure => simp [RowKit.intOf]; omega
      · have t0 : ((x.toNat : Int) != 13) = true := by
          rw [bne_iff_ne]; intro e; exact hc (UInt8.toNat_inj.1 (by show x.toNat = 13; omega))
        have HN0 := hI.out.other hlt (by rw [hx]; exact hc)
        rw [hx] at HN0
        have HN := hid HN0
        have hln : (acc ++ [x]).length = acc.length + 1 := by simp
        have HLN := hid hln
        clear hln HN0 hc
        go_wp2_with (at_builtin; refine append_bytes rfl _ _ rfl w.heap.size _ acc rfl (hown.alloc _) ⟨wr.heap.size, 0, none⟩ 1 1 [x] rfl rfl (new_bytes wr [x] _ (0, 0) rfl) (by omega) (by simp; omega) ?_)
        intro v' w' hown2 hgr
        have hown3 : w'.ownsRow w.heap.size 5 1 v' (acc ++ [x]).length (byteCells (acc ++ [x])) := by rw [HLN.out]; exact hown2
        have hbw3 := (hbw.alloc hszr _).grown hgr (by simp; omega) (own_ge (hown.alloc (.cells #[] 0)))
        clear hown2 hgr hown hbw
        go_wp2
        go_roundw
        case rel => exact ⟨k + 1, acc ++ [x], by go_num, by omega, hown3, hbw3, HN⟩
        case measure => simp [RowKit.intOf]; omega
    · have hcv := conv_own hown
      have HX := hid (hI.out.done hlt)
      go_wp2
      go_ret
      exact ⟨congrArg (fun x : List UInt8 => Ending.returned (.string ⟨x.toArray⟩)) HX.out, hbw⟩
end Go.Proofs.YtjliphkpmpcjaaaDoor
