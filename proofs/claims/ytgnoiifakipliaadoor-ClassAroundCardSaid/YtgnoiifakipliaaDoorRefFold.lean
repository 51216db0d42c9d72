/- Walks over the reference of layer 2: Fold. -/
import Derived.Test.YtgnoiifakipliaaDoorOwnRunes
import Derived.Test.YtgnoiifakipliaaDoorRefAround
namespace Go.Proofs.YtgnoiifakipliaaDoor
open Go.RowKit Go.Lib
set_option maxRecDepth 100000
set_option linter.unusedVariables false

/-- '[]rune(s)', its world a letter. -/
theorem conv_runes2 (w : World) (s : ByteArray) (h : s.size ≤ 70368744177664) : ∃ (cap : Nat) (W : World),
    (convert 9 37 (.string s)).run Tryd.prog w = .ok (.slice (some ⟨w.heap.size, 0, none⟩) (runes s.data.toList).length cap) W ∧
    (∀ j, j < (runes s.data.toList).length → W.cell? ⟨w.heap.size, j, none⟩ = some (.int .i32 ((runes s.data.toList).getD j 0 : Nat))) ∧ (runes s.data.toList).length ≤ cap ∧ cap ≤ maxLen ∧
    Below w.heap.size w W ∧ W.heap.size = w.heap.size + 1 := by
  obtain ⟨cap, C, h1, h2, h3, h4⟩ := conv_runes w s h
  refine ⟨cap, _, h1, ?_, h3, h4, (Below.refl _ w).drew.alloc (Nat.le_refl _) _, by simp⟩
  intro j hj
  have := World.cell?_alloc_mark w.drew C 21 (0, 0) j
  rw [h2 j hj] at this
  exact this

theorem new_runes (w : World) (F : List Nat) (fr : Nat × Nat) : ∀ j (hj : j < F.length), (w.alloc (.cells (runeRow F).toArray 21 fr)).cell? ((⟨w.heap.size, 0, none⟩ : Addr).add j) = some (.int .i32 (F[j] : Nat)) := by
  intro j hj
  rw [addr_add, Nat.zero_add, World.cell?_alloc_mark, List.getElem?_toArray, runeRow_get, List.getElem?_eq_getElem hj]
  rfl

set_option maxHeartbeats 2000000 in
theorem rFold_any (s : ByteArray) (w : World) (hs : s.size ≤ 4294967296) (hr : U8.right s.data.toList = true) :
    Calls Tryd.prog 23 #[.string s] w fun e w' => e = .returned (.string ⟨(foldL s.data.toList).toArray⟩) ∧ Below w.heap.size w w' := by
  obtain ⟨cap, W, cv, hcell, hn, hcap, hbW, hWs⟩ := conv_runes2 w s (by omega)
  have htx := (enc_runes _ hr).2
  have hrl := runes_length s.data.toList
  rw [size_list] at hrl
  obtain ⟨rs, hrs⟩ : ∃ rs, runes s.data.toList = rs := ⟨_, rfl⟩
  have hF : foldL s.data.toList = encs (foldCs rs) := by unfold foldL; rw [hrs]
  rw [hF]
  rw [hrs] at cv hcell hn htx hrl
  obtain ⟨n, hnn⟩ : ∃ n, rs.length = n := ⟨_, rfl⟩
  rw [hnn] at cv hcell hn hrl
  have HC := hid hcell; have HT := hid htx; have HN := hid hnn
  unfold maxLen at hcap
  have hnI : (n : Int) ≤ 4294967296 := by omega
  clear hcell htx hnn hF hrs hr
  go_enter Tryd.func23, Tryd.ntmps23
  go_wp2
  go_loopw [3, 5] (fun v i wr => ∃ (k : Nat) (acc : List Nat), i = .int .i64 k ∧ k ≤ n ∧ wr.ownsRow (w.heap.size + 1) 21 1 v acc.length (runeRow acc) ∧ Below (w.heap.size + 1) W wr ∧ Hid (acc = foldCs (rs.take k) ∧ acc.length ≤ 2 * k)) (fun _ i _ => n - (RowKit.intOf i).toNat)
  case atStart => exact ⟨0, [], rfl, by omega, World.ownsRow_nil _ _ _ _, Below.refl _ _, hid ⟨rfl, by simp⟩⟩
  case round =>
    obtain ⟨k, acc, rfl, hk, hown, hbw, hI⟩ := hrel
    have hszr := hbw.size
    have hacc := hI.out.2
    by_cases hlt : k < n
    · have hlt' : k < rs.length := by rw [HN.out]; exact hlt
      obtain ⟨r, hr⟩ : ∃ r, rs[k]'hlt' = r := ⟨_, rfl⟩
      have hrt : TxtC r := HT.out r (by rw [← hr]; exact List.getElem_mem hlt')
      have c0 : wr.cell? ⟨w.heap.size, k, none⟩ = some (.int .i32 r) := by
        rw [hbw.cell (p := ⟨w.heap.size, k, none⟩) (by show w.heap.size < w.heap.size + 1; omega), HC.out k hlt]
        simp [List.getD, List.getElem?_eq_getElem hlt', hr]
      have HFd := hid (rfold_any r (by unfold TxtC OkC at hrt; omega) wr)
      have hI2 : acc ++ foldC r = foldCs (rs.take (k + 1)) ∧ (acc ++ foldC r).length ≤ 2 * (k + 1) := by
        refine ⟨?_, by have := foldC_len r; rw [List.length_append]; omega⟩
        rw [List.take_add_one, List.getElem?_eq_getElem hlt', hr, hI.out.1]
        simp [foldCs]
      have HI2 := hid hI2
      have hfl := foldC_len r
      obtain ⟨F, hFe⟩ : ∃ F, foldC r = F := ⟨_, rfl⟩
      unfold FoldsTo at HFd
      rw [hFe] at HFd HI2 hfl
      clear hI2 hFe hrt hr
      have HNW := hid (new_runes wr F (0, 0))
      have hlen : acc.length + F.length ≤ 35184372088832 := by omega
      go_wp2_with fail
      refine HFd.out.mono ?_
      rintro e w1 ⟨rfl, rfl⟩
      go_wp2_with (at_builtin; refine append_runes rfl _ _ rfl (w.heap.size + 1) _ acc rfl (hown.alloc _) ⟨wr.heap.size, 0, none⟩ F.length F.length F rfl rfl HNW.out hlen (by simp; omega) ?_)
      intro v' w' hown2 hgr
      have hbw3 := (hbw.alloc (by omega) _).grown hgr (by simp; omega) (own_ge (hown.alloc (.cells #[] 0)))
      clear hgr hown hbw
      go_wp2
      go_roundw
      case rel => exact ⟨k + 1, acc ++ F, by go_num, by omega, by rw [List.length_append]; exact hown2, hbw3, HI2⟩
      case measure => simp [RowKit.intOf]; omega
    · have hke : k = n := by omega
      have hX : acc = foldCs rs := by rw [hI.out.1, List.take_of_length_le (by rw [HN.out]; omega)]
      have hok : ∀ c ∈ acc, OkC c := fun c hc => (foldCs_txt rs HT.out c (by rw [← hX]; exact hc)).2
      have hcv := convR_own hown hok
      have HX := hid hX
      have hbf := hbW.trans (hbw.mono (by omega))
      clear hX hok
      go_wp2
      go_ret
      exact ⟨congrArg (fun x : List Nat => Ending.returned (.string ⟨(encs x).toArray⟩)) HX.out, hbf⟩
end Go.Proofs.YtgnoiifakipliaaDoor
