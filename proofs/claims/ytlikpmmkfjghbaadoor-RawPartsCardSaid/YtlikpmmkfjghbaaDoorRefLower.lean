/- Walks over the reference of layer 2: Lower. -/
import Derived.Test.YtlikpmmkfjghbaaDoorLwInv
namespace Go.Proofs.YtlikpmmkfjghbaaDoor
open Go.RowKit Go.Lib
set_option maxRecDepth 100000
set_option linter.unusedVariables false

set_option maxHeartbeats 1000000 in
theorem rlower_any (s : ByteArray) (w : World) (hs : s.size ≤ 4294967296) :
    Calls Tryd.prog 9 #[.string s] w fun e w' => e = .returned (.string ⟨(lowL s.data.toList).toArray⟩) ∧ Below w.heap.size w w' := by
  go_enter Tryd.func9, Tryd.ntmps9
  go_wp2
  go_loopw [3, 4] (fun v i wr => ∃ (k : Nat) (acc : List UInt8), i = .int .i64 k ∧ k ≤ s.size ∧ wr.ownsRow w.heap.size 5 1 v acc.length (byteCells acc) ∧ Below w.heap.size w wr ∧ Hid (LwInv s.data.toList k acc)) (fun _ i _ => s.size - (RowKit.intOf i).toNat)
  case atStart => exact ⟨0, [], rfl, by omega, World.ownsRow_nil _ _ _ _, Below.refl _ _, hid ⟨by simp, rfl⟩⟩
  case round =>
    obtain ⟨k, acc, rfl, hk, hown, hbw, hI⟩ := hrel
    have hacc := hI.out.2
    have hszr := hbw.size
    by_cases hlt : k < s.size
    · obtain ⟨x, hx⟩ : ∃ x, s[k]'hlt = x := ⟨_, rfl⟩
      have HN0 := hI.out.step hlt
      rw [hx] at HN0
      obtain ⟨y, hy⟩ : ∃ y, lowC x = y := ⟨_, rfl⟩
      rw [hy] at HN0
      have hyn := lowC_num x
      rw [hy] at hyn
      have HN := hid HN0
      have hln : (acc ++ [y]).length = acc.length + 1 := by simp
      have HLN := hid hln
      have hx256 := x.toNat_lt
      clear hln HN0 hy
      by_cases hc : 65 ≤ x.toNat ∧ x.toNat ≤ 90
      · rw [if_pos hc] at hyn
        have hyI : ((y.toNat : Nat) : Int) = (x.toNat : Int) + 32 := by omega
        obtain ⟨n, hn⟩ : ∃ n, x.toNat = n := ⟨_, rfl⟩
        rw [hn] at hc hyI hx256
        obtain ⟨c1, c2⟩ := hc
        have d2 : decide ((n : Int) ≤ 90) = true := by simp; omega
        have HC := hid (show (#[Value.int .u8 ((n : Int) + 32)] : Array Value) = (byteCells [y]).toArray by simp [byteCells, hyI])
        clear hyn hyI
        go_wp2_with (at_builtin; refine append_bytes rfl _ _ rfl w.heap.size _ acc rfl (hown.alloc _) ⟨wr.heap.size, 0, none⟩ 1 1 [y] rfl rfl (new_bytes wr [y] _ (0, 0) HC.out) (by omega) (by simp; omega) ?_)
        intro v' w' hown2 hgr
        have hown3 : w'.ownsRow w.heap.size 5 1 v' (acc ++ [y]).length (byteCells (acc ++ [y])) := by rw [HLN.out, hacc]; exact hown2
        have hbw3 := (hbw.alloc hszr _).grown hgr (by simp; omega) (own_ge (hown.alloc (.cells #[] 0)))
        clear hown2 hgr hown hbw
        go_wp2
        go_roundw
        case rel => exact ⟨k + 1, acc ++ [y], by go_num, by omega, hown3, hbw3, HN⟩
        case measure => simp [RowKit.intOf]; omega
      · rw [if_neg hc] at hyn
        obtain ⟨n, hn⟩ : ∃ n, x.toNat = n := ⟨_, rfl⟩
        rw [hn] at hc hyn hx256
        have HC := hid (show (#[Value.int .u8 (n : Int)] : Array Value) = (byteCells [y]).toArray by simp [byteCells, hyn])
        clear hyn
        rcases (show n < 65 ∨ (65 ≤ n ∧ 90 < n) by omega) with h6 | ⟨h6, h7⟩
        · clear hc
          go_wp2_with (at_builtin; refine append_bytes rfl _ _ rfl w.heap.size _ acc rfl (hown.alloc _) ⟨wr.heap.size, 0, none⟩ 1 1 [y] rfl rfl (new_bytes wr [y] _ (0, 0) HC.out) (by omega) (by simp; omega) ?_)
          intro v' w' hown2 hgr
          have hown3 : w'.ownsRow w.heap.size 5 1 v' (acc ++ [y]).length (byteCells (acc ++ [y])) := by rw [HLN.out, hacc]; exact hown2
          have hbw3 := (hbw.alloc hszr _).grown hgr (by simp; omega) (own_ge (hown.alloc (.cells #[] 0)))
          clear hown2 hgr hown hbw
          go_wp2
          go_roundw
          case rel => exact ⟨k + 1, acc ++ [y], by go_num, by omega, hown3, hbw3, HN⟩
          case measure => simp [RowKit.intOf]; omega
        · clear hc
          have d2 : decide ((n : Int) ≤ 90) = false := by simp; omega
          go_wp2_with (at_builtin; refine append_bytes rfl _ _ rfl w.heap.size _ acc rfl (hown.alloc _) ⟨wr.heap.size, 0, none⟩ 1 1 [y] rfl rfl (new_bytes wr [y] _ (0, 0) HC.out) (by omega) (by simp; omega) ?_)
          intro v' w' hown2 hgr
          have hown3 : w'.ownsRow w.heap.size 5 1 v' (acc ++ [y]).length (byteCells (acc ++ [y])) := by rw [HLN.out, hacc]; exact hown2
          have hbw3 := (hbw.alloc hszr _).grown hgr (by simp; omega) (own_ge (hown.alloc (.cells #[] 0)))
          clear hown2 hgr hown hbw
          go_wp2
          go_roundw
          case rel => exact ⟨k + 1, acc ++ [y], by go_num, by omega, hown3, hbw3, HN⟩
          case measure => simp [RowKit.intOf]; omega
    · have hcv := conv_own hown
      have HX := hid (hI.out.done hlt)
      go_wp2
      go_ret
      exact ⟨congrArg (fun x : List UInt8 => Ending.returned (.string ⟨x.toArray⟩)) HX.out, hbw⟩
end Go.Proofs.YtlikpmmkfjghbaaDoor
