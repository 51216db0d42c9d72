/- Walks over the reference of layer 4: Strip. -/
import Derived.Test.YtoipadpgpnkdkaaDoorOwn
import Derived.Test.YtoipadpgpnkdkaaDoorUrl
import Derived.Test.YtoipadpgpnkdkaaDoorRefLower
import Derived.Deep.LoopGhost
namespace Go.Proofs.YtoipadpgpnkdkaaDoor
open Go.RowKit Go.Lib
set_option maxRecDepth 100000
set_option linter.unusedVariables false

theorem B_at (s : ByteArray) (k : Nat) (h : k < s.size) : U8.B s.data.toList k = (s[k]'h).toNat := (get_of s k h).symm
/-- What is cut off in front. -/
theorem front_step (s : ByteArray) (h : 0 < s.size) (hc : (s[0]'h).toNat ≤ 32) : Url.cutL (s.extract 1 s.size).data.toList = Url.cutL s.data.toList := by
  have hd := drop_at s 0 h
  rw [List.drop_zero] at hd
  rw [extract_drop]
  conv => rhs; rw [hd]
  rw [Url.cutL_yes hc]
theorem front_done (s : ByteArray) (h : 0 < s.size) (hc : ¬ (s[0]'h).toNat ≤ 32) : Url.cutL s.data.toList = s.data.toList := by
  have hd := drop_at s 0 h
  rw [List.drop_zero] at hd
  rw [hd, Url.cutL_no hc]
theorem last_list (s : ByteArray) (h : 0 < s.size) : s.data.toList = (s.extract 0 (s.size - 1)).data.toList ++ [s[s.size - 1]'(by omega)] := by
  rw [extract_list]
  have := List.take_succ_eq_append_getElem (l := s.data.toList) (i := s.size - 1) (by rw [size_list]; omega)
  rw [Nat.sub_add_cancel h, List.take_of_length_le (by rw [size_list]; exact Nat.le_refl _)] at this
  exact this
theorem back_step (s : ByteArray) (h : 0 < s.size) (hc : (s[s.size - 1]'(by omega)).toNat ≤ 32) : Url.cutR (s.extract 0 (s.size - 1)).data.toList = Url.cutR s.data.toList := by
  conv => rhs; rw [last_list s h]
  rw [Url.cutR_yes hc]
theorem back_done (s : ByteArray) (h : 0 < s.size) (hc : ¬ (s[s.size - 1]'(by omega)).toNat ≤ 32) : Url.cutR s.data.toList = s.data.toList := by
  rw [last_list s h, Url.cutR_no hc]
theorem none_list (s : ByteArray) (h : ¬ 0 < s.size) : s.data.toList = [] := List.eq_nil_of_length_eq_zero (by rw [size_list]; omega)
/-- Behind k bytes. -/
def RStripI (l : List UInt8) (k : Nat) (acc : List UInt8) : Prop := acc ++ (l.drop k).filter Url.keepB = l.filter Url.keepB ∧ acc.length ≤ k
theorem RStripI.keep {s : ByteArray} {k : Nat} {acc : List UInt8} (h : RStripI s.data.toList k acc) (hk : k < s.size) (hc : Url.keepB (s[k]'hk) = true) : RStripI s.data.toList (k + 1) (acc ++ [s[k]'hk]) := by
  obtain ⟨h1, h2⟩ := h
  rw [drop_at s k hk, List.filter_cons, if_pos hc] at h1
  exact ⟨by rw [← h1]; simp, by simp; omega⟩
theorem RStripI.leave {s : ByteArray} {k : Nat} {acc : List UInt8} (h : RStripI s.data.toList k acc) (hk : k < s.size) (hc : Url.keepB (s[k]'hk) = false) : RStripI s.data.toList (k + 1) acc := by
  obtain ⟨h1, h2⟩ := h
  rw [drop_at s k hk, List.filter_cons, if_neg (by rw [hc]; decide)] at h1
  exact ⟨h1, by omega⟩
theorem RStripI.done {s : ByteArray} {k : Nat} {acc : List UInt8} (h : RStripI s.data.toList k acc) (hk : ¬ k < s.size) : acc = s.data.toList.filter Url.keepB := by
  obtain ⟨h1, _⟩ := h
  rw [List.drop_of_length_le (by rw [size_list]; omega)] at h1
  simpa using h1

set_option maxHeartbeats 4000000 in
theorem rstrip_any (s0 : ByteArray) (w : World) (hs : s0.size ≤ 4000000) :
    Calls Tryd.prog 11 #[.string s0] w fun e w' => e = .returned (.string ⟨(Url.strip s0.data.toList).toArray⟩) ∧ Below w.heap.size w w' := by
  go_enter Tryd.func11, Tryd.ntmps11
  go_wp2
  go_loopg [0] s0.size (fun g sv wr => ∃ s : ByteArray, s.size ≤ g ∧ sv = .string s ∧ s.size ≤ s0.size ∧ Hid (Url.cutL s.data.toList = Url.cutL s0.data.toList) ∧ w = wr)
  case atStart => exact ⟨s0, Nat.le_refl _, rfl, Nat.le_refl _, hid rfl, rfl⟩
  case round =>
    obtain ⟨s, hg, rfl, hsz, hI, rfl⟩ := hrel
    by_cases h0 : 0 < s.size
    · by_cases hc : (s[0]'h0).toNat ≤ 32
      · have HN := hid ((front_step s h0 hc).trans hI.out)
        have hxs : (s.extract 1 s.size).size = s.size - 1 := by rw [size_eq, extract_drop, List.length_drop, size_list]
        clear hI
        go_wp2
        go_roundg (gk - 1)
        case measure => omega
        case rel => exact ⟨_, by omega, rfl, by omega, HN, rfl⟩
      · have HD := hid ((front_done s h0 hc).symm.trans hI.out)
        clear hI
        go_wp2
        go_loopg [0] s.size (fun g sv wr => ∃ q : ByteArray, q.size ≤ g ∧ sv = .string q ∧ q.size ≤ s0.size ∧ Hid (Url.cutR q.data.toList = Url.cutR (Url.cutL s0.data.toList)) ∧ w = wr)
        case atStart => exact ⟨s, Nat.le_refl _, rfl, hsz, hid (congrArg Url.cutR HD.out), rfl⟩
        case round =>
          obtain ⟨q, hg2, rfl, hqz, hJ, rfl⟩ := hrel
          by_cases h1 : 0 < q.size
          · by_cases hc2 : (q[q.size - 1]'(by omega)).toNat ≤ 32
            · have HN := hid ((back_step q h1 hc2).trans hJ.out)
              have hxs : (q.extract 0 (q.size - 1)).size = q.size - 1 := size_extract0 q (q.size - 1) (by omega)
              have e1 : ((q.size : Int) - 1) = ((q.size - 1 : Nat) : Int) := by omega
              have e2 : decide ((0 : Int) < (q.size : Int)) = true := decide_eq_true (by omega)
              clear hJ
              go_wp2
              go_roundg (gk - 1)
              case measure => omega
              case rel => exact ⟨_, by omega, rfl, by omega, HN, rfl⟩
            · have HQ := hid (show q.data.toList.filter Url.keepB = Url.strip s0.data.toList by rw [(back_done q h1 hc2).symm.trans hJ.out]; rfl)
              have e1 : ((q.size : Int) - 1) = ((q.size - 1 : Nat) : Int) := by omega
              have e2 : decide ((0 : Int) < (q.size : Int)) = true := decide_eq_true (by omega)
              clear hJ
              go_wp2
              go_loopg [4, 3] q.size (fun g iv v wr => ∃ (k : Nat) (acc : List UInt8), k + g = q.size ∧ iv = .int .i64 k ∧ wr.ownsRow w.heap.size 5 1 v acc.length (byteCells acc) ∧ Below w.heap.size w wr ∧ Hid (RStripI q.data.toList k acc))
              case atStart => exact ⟨0, [], by omega, rfl, World.ownsRow_nil _ _ _ _, Below.refl _ _, hid ⟨rfl, Nat.le_refl _⟩⟩
              case round =>
                obtain ⟨k, acc, hk, rfl, hown, hbw, hI⟩ := hrel
                have hacc := hI.out.2
                have hszr := hbw.size
                by_cases hlt : k < q.size
                · have d1 : decide (k < q.size) = true := decide_eq_true hlt
                  have hx256 := (q[k]'hlt).toNat_lt
                  by_cases hkp : Url.keepB (q[k]'hlt) = true
                  · have HN := hI.out.keep hlt hkp
                    have hkn : (q[k]'hlt).toNat ≠ 9 ∧ (q[k]'hlt).toNat ≠ 10 ∧ (q[k]'hlt).toNat ≠ 13 := by simpa [Url.keepB] using hkp
                    obtain ⟨c, hc⟩ : ∃ c, (q[k]'hlt) = c := ⟨_, rfl⟩
                    rw [hc] at HN hkn hx256
                    have HL := hid (show (acc ++ [c]).length = acc.length + 1 by simp)
                    have HC := hid (show (#[Value.int .u8 (c.toNat : Nat)] : Array Value) = (byteCells [c]).toArray by simp [byteCells])
                    obtain ⟨n, hn⟩ : ∃ n, c.toNat = n := ⟨_, rfl⟩
                    rw [hn] at hkn HC hx256
                    obtain ⟨k1, k2, k3⟩ := hkn
                    have t1 : ((n : Int) != 9) = true := bne_iff_ne.2 (by omega)
                    have t2 : ((n : Int) != 10) = true := bne_iff_ne.2 (by omega)
                    have t3 : ((n : Int) != 13) = true := bne_iff_ne.2 (by omega)
                    have HN := hid HN
                    clear hkp hI k1 k2 k3
                    go_wp2_with (at_builtin; refine append_bytes rfl _ _ rfl w.heap.size _ acc rfl (hown.alloc _) ⟨wr.heap.size, 0, none⟩ 1 1 [c] rfl rfl (new_bytes wr [c] _ (0, 0) HC.out) (by omega) (by simp; omega) ?_)
                    intro v' w' hown2 hgr
                    have hown3 : w'.ownsRow w.heap.size 5 1 v' (acc ++ [c]).length (byteCells (acc ++ [c])) := by rw [HL.out]; exact hown2
                    have hbw3 := (hbw.alloc hszr _).grown hgr (by simp; omega) (own_ge (hown.alloc (.cells #[] 0)))
                    clear hown2 hgr hown hbw
                    go_wp2
                    go_roundg (q.size - (k + 1))
                    case measure => omega
                    case rel => exact ⟨k + 1, acc ++ [c], by omega, by go_num, hown3, hbw3, HN⟩
                  · have hkf : Url.keepB (q[k]'hlt) = false := by simpa using hkp
                    have HN := hid (hI.out.leave hlt hkf)
                    have hkn : (q[k]'hlt).toNat = 9 ∨ (q[k]'hlt).toNat = 10 ∨ (q[k]'hlt).toNat = 13 := by
                      simp only [Url.keepB, decide_eq_false_iff_not] at hkf; omega
                    obtain ⟨c, hc⟩ : ∃ c, (q[k]'hlt) = c := ⟨_, rfl⟩
                    rw [hc] at hkn hx256
                    obtain ⟨n, hn⟩ : ∃ n, c.toNat = n := ⟨_, rfl⟩
                    rw [hn] at hkn hx256
                    clear hkp hkf hI
                    rcases hkn with rfl | rfl | rfl
                    all_goals
                      go_wp2
                      go_roundg (q.size - (k + 1))
                      case measure => omega
                      case rel => exact ⟨k + 1, acc, by omega, by go_num, hown, hbw, HN⟩
                · have hcv := conv_own hown
                  have HX := hid ((hI.out.done hlt).trans HQ.out)
                  have d1 : decide (k < q.size) = false := decide_eq_false hlt
                  clear hI
                  go_wp2
                  go_ret
                  exact ⟨congrArg (fun x : List UInt8 => Ending.returned (.string ⟨x.toArray⟩)) HX.out, hbw⟩
          · have HQ := hid (show q.data.toList.filter Url.keepB = Url.strip s0.data.toList by
              have := hJ.out
              rw [none_list q h1] at this
              unfold Url.strip
              rw [← this, none_list q h1]
              rfl)
            have e2 : decide ((0 : Int) < (q.size : Int)) = false := decide_eq_false (by omega)
            clear hJ
            go_wp2
            go_loopg [4, 3] q.size (fun g iv v wr => ∃ (k : Nat) (acc : List UInt8), k + g = q.size ∧ iv = .int .i64 k ∧ wr.ownsRow w.heap.size 5 1 v acc.length (byteCells acc) ∧ Below w.heap.size w wr ∧ Hid (RStripI q.data.toList k acc))
            case atStart => exact ⟨0, [], by omega, rfl, World.ownsRow_nil _ _ _ _, Below.refl _ _, hid ⟨rfl, Nat.le_refl _⟩⟩
            case round =>
              obtain ⟨k, acc, hk, rfl, hown, hbw, hI⟩ := hrel
              have hacc := hI.out.2
              have hszr := hbw.size
              have hlt : ¬ k < q.size := by omega
              have hcv := conv_own hown
              have HX := hid ((hI.out.done hlt).trans HQ.out)
              have d1 : decide (k < q.size) = false := decide_eq_false hlt
              clear hI
              go_wp2
              go_ret
              exact ⟨congrArg (fun x : List UInt8 => Ending.returned (.string ⟨x.toArray⟩)) HX.out, hbw⟩
    · have HD := hid (show s.data.toList = Url.cutL s0.data.toList by rw [← hI.out, none_list s h0]; rfl)
      clear hI
      go_wp2
      go_loopg [0] s.size (fun g sv wr => ∃ q : ByteArray, q.size ≤ g ∧ sv = .string q ∧ q.size ≤ s0.size ∧ Hid (Url.cutR q.data.toList = Url.cutR (Url.cutL s0.data.toList)) ∧ w = wr)
      case atStart => exact ⟨s, Nat.le_refl _, rfl, hsz, hid (congrArg Url.cutR HD.out), rfl⟩
      case round =>
        obtain ⟨q, hg2, rfl, hqz, hJ, rfl⟩ := hrel
        by_cases h1 : 0 < q.size
        · by_cases hc2 : (q[q.size - 1]'(by omega)).toNat ≤ 32
          · have HN := hid ((back_step q h1 hc2).trans hJ.out)
            have hxs : (q.extract 0 (q.size - 1)).size = q.size - 1 := size_extract0 q (q.size - 1) (by omega)
            have e1 : ((q.size : Int) - 1) = ((q.size - 1 : Nat) : Int) := by omega
            have e2 : decide ((0 : Int) < (q.size : Int)) = true := decide_eq_true (by omega)
            clear hJ
            go_wp2
            go_roundg (gk - 1)
            case measure => omega
            case rel => exact ⟨_, by omega, rfl, by omega, HN, rfl⟩
          · have HQ := hid (show q.data.toList.filter Url.keepB = Url.strip s0.data.toList by rw [(back_done q h1 hc2).symm.trans hJ.out]; rfl)
            have e1 : ((q.size : Int) - 1) = ((q.size - 1 : Nat) : Int) := by omega
            have e2 : decide ((0 : Int) < (q.size : Int)) = true := decide_eq_true (by omega)
            clear hJ
            go_wp2
            go_loopg [4, 3] q.size (fun g iv v wr => ∃ (k : Nat) (acc : List UInt8), k + g = q.size ∧ iv = .int .i64 k ∧ wr.ownsRow w.heap.size 5 1 v acc.length (byteCells acc) ∧ Below w.heap.size w wr ∧ Hid (RStripI q.data.toList k acc))
            case atStart => exact ⟨0, [], by omega, rfl, World.ownsRow_nil _ _ _ _, Below.refl _ _, hid ⟨rfl, Nat.le_refl _⟩⟩
            case round =>
              obtain ⟨k, acc, hk, rfl, hown, hbw, hI⟩ := hrel
              have hacc := hI.out.2
              have hszr := hbw.size
              by_cases hlt : k < q.size
              · have d1 : decide (k < q.size) = true := decide_eq_true hlt
                have hx256 := (q[k]'hlt).toNat_lt
                by_cases hkp : Url.keepB (q[k]'hlt) = true
                · have HN := hI.out.keep hlt hkp
                  have hkn : (q[k]'hlt).toNat ≠ 9 ∧ (q[k]'hlt).toNat ≠ 10 ∧ (q[k]'hlt).toNat ≠ 13 := by simpa [Url.keepB] using hkp
                  obtain ⟨c, hc⟩ : ∃ c, (q[k]'hlt) = c := ⟨_, rfl⟩
                  rw [hc] at HN hkn hx256
                  have HL := hid (show (acc ++ [c]).length = acc.length + 1 by simp)
                  have HC := hid (show (#[Value.int .u8 (c.toNat : Nat)] : Array Value) = (byteCells [c]).toArray by simp [byteCells])
                  obtain ⟨n, hn⟩ : ∃ n, c.toNat = n := ⟨_, rfl⟩
                  rw [hn] at hkn HC hx256
                  obtain ⟨k1, k2, k3⟩ := hkn
                  have t1 : ((n : Int) != 9) = true := bne_iff_ne.2 (by omega)
                  have t2 : ((n : Int) != 10) = true := bne_iff_ne.2 (by omega)
                  have t3 : ((n : Int) != 13) = true := bne_iff_ne.2 (by omega)
                  have HN := hid HN
                  clear hkp hI k1 k2 k3
                  go_wp2_with (at_builtin; refine append_bytes rfl _ _ rfl w.heap.size _ acc rfl (hown.alloc _) ⟨wr.heap.size, 0, none⟩ 1 1 [c] rfl rfl (new_bytes wr [c] _ (0, 0) HC.out) (by omega) (by simp; omega) ?_)
                  intro v' w' hown2 hgr
                  have hown3 : w'.ownsRow w.heap.size 5 1 v' (acc ++ [c]).length (byteCells (acc ++ [c])) := by rw [HL.out]; exact hown2
                  have hbw3 := (hbw.alloc hszr _).grown hgr (by simp; omega) (own_ge (hown.alloc (.cells #[] 0)))
                  clear hown2 hgr hown hbw
                  go_wp2
                  go_roundg (q.size - (k + 1))
                  case measure => omega
                  case rel => exact ⟨k + 1, acc ++ [c], by omega, by go_num, hown3, hbw3, HN⟩
                · have hkf : Url.keepB (q[k]'hlt) = false := by simpa using hkp
                  have HN := hid (hI.out.leave hlt hkf)
                  have hkn : (q[k]'hlt).toNat = 9 ∨ (q[k]'hlt).toNat = 10 ∨ (q[k]'hlt).toNat = 13 := by
                    simp only [Url.keepB, decide_eq_false_iff_not] at hkf; omega
                  obtain ⟨c, hc⟩ : ∃ c, (q[k]'hlt) = c := ⟨_, rfl⟩
                  rw [hc] at hkn hx256
                  obtain ⟨n, hn⟩ : ∃ n, c.toNat = n := ⟨_, rfl⟩
                  rw [hn] at hkn hx256
                  clear hkp hkf hI
                  rcases hkn with rfl | rfl | rfl
                  all_goals
                    go_wp2
                    go_roundg (q.size - (k + 1))
                    case measure => omega
                    case rel => exact ⟨k + 1, acc, by omega, by go_num, hown, hbw, HN⟩
              · have hcv := conv_own hown
                have HX := hid ((hI.out.done hlt).trans HQ.out)
                have d1 : decide (k < q.size) = false := decide_eq_false hlt
                clear hI
                go_wp2
                go_ret
                exact ⟨congrArg (fun x : List UInt8 => Ending.returned (.string ⟨x.toArray⟩)) HX.out, hbw⟩
        · have HQ := hid (show q.data.toList.filter Url.keepB = Url.strip s0.data.toList by
            have := hJ.out
            rw [none_list q h1] at this
            unfold Url.strip
            rw [← this, none_list q h1]
            rfl)
          have e2 : decide ((0 : Int) < (q.size : Int)) = false := decide_eq_false (by omega)
          clear hJ
          go_wp2
          go_loopg [4, 3] q.size (fun g iv v wr => ∃ (k : Nat) (acc : List UInt8), k + g = q.size ∧ iv = .int .i64 k ∧ wr.ownsRow w.heap.size 5 1 v acc.length (byteCells acc) ∧ Below w.heap.size w wr ∧ Hid (RStripI q.data.toList k acc))
          case atStart => exact ⟨0, [], by omega, rfl, World.ownsRow_nil _ _ _ _, Below.refl _ _, hid ⟨rfl, Nat.le_refl _⟩⟩
          case round =>
            obtain ⟨k, acc, hk, rfl, hown, hbw, hI⟩ := hrel
            have hacc := hI.out.2
            have hszr := hbw.size
            have hlt : ¬ k < q.size := by omega
            have hcv := conv_own hown
            have HX := hid ((hI.out.done hlt).trans HQ.out)
            have d1 : decide (k < q.size) = false := decide_eq_false hlt
            clear hI
            go_wp2
            go_ret
            exact ⟨congrArg (fun x : List UInt8 => Ending.returned (.string ⟨x.toArray⟩)) HX.out, hbw⟩
end Go.Proofs.YtoipadpgpnkdkaaDoor
