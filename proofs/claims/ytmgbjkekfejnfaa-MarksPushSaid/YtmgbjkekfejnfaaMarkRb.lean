/- Walks over the reference of layer 12: behind, Last, Find, Clear. -/
import Derived.Test.YtmgbjkekfejnfaaMarkM
import Derived.Deep.LoopGhost
import Derived.IntWalk
import Derived.BigCall
namespace Go.Proofs.Ytmgbjkekfejnfaa
open Go.RowKit Go.Lib
set_option maxRecDepth 100000
set_option linter.unusedVariables false
set_option maxHeartbeats 2000000 in
theorem rbehind_any (a : Option Addr) (n c : Nat) (rs : List MR) (xs : List Mk.M) (w : World) (h : MarksIn a n c rs xs w) :
    Calls Try.prog 25 #[.slice a n c] w fun e w' => e = .returned (.int .i64 (Mk.behind xs n)) ∧ w = w' := by
  have HH := hid h
  have hf := h.few
  obtain ⟨R, hR⟩ : ∃ R, Mk.behind xs n = R := ⟨_, rfl⟩
  rw [hR]
  have HR := hid hR
  clear h hR
  go_enter Try.func25, Try.ntmps25
  go_wp2
  go_loopg [3] n (fun g iv wr => ∃ k : Nat, k = g ∧ k ≤ n ∧ iv = .int .i64 ((k : Int) - 1) ∧ Hid (Mk.behind xs k = R) ∧ w = wr)
  case atStart => exact ⟨n, rfl, Nat.le_refl _, by go_num, HR, rfl⟩
  case round =>
    obtain ⟨kk, hk, hg, rfl, hI, rfl⟩ := hrel
    by_cases hlt : kk = 0
    · subst hlt
      have HR2 := hid (show 0 = R from hI.out)
      clear hI
      go_wp2
      go_ret
      exact ⟨by rw [← HR2.out]; rfl, rfl⟩
    · obtain ⟨k, rfl⟩ : ∃ k, kk = k + 1 := ⟨kk - 1, by omega⟩
      have d0 : decide ((0 : Int) ≤ (k : Int)) = true := decide_eq_true (by omega)
      obtain ⟨blk, off, r, x, rfl, hr, hx, f, c0, c1, c2⟩ := HH.out.get (show k < n by omega)
      have kk1 : ((k + 1 : Nat) : Int) - 1 = (k : Int) := by omega
      rw [kk1]
      have hkl : (k : Int) < (n : Int) := by omega
      have hkl2 : k < n := by omega
      rw [Mk.behind_step hx] at hI
      by_cases hs : x.id < 0
      · have d1 : decide (x.id < 0) = true := decide_eq_true hs
        have HR2 := hid (show k + 1 = R by rw [← hI.out, if_pos hs])
        clear hI hx f
        go_wp2
        go_ret
        exact ⟨by rw [← HR2.out]; go_num, rfl⟩
      · have d1 : decide (x.id < 0) = false := decide_eq_false hs
        have HN := hid (show Mk.behind xs k = R by rw [← hI.out, if_neg hs])
        clear hI hx f
        go_wp2
        go_roundg k
        case measure => omega
        case rel => exact ⟨k, rfl, by omega, by go_num, HN, rfl⟩
set_option maxHeartbeats 2000000 in
theorem rlast_any (a : Option Addr) (n c : Nat) (rs : List MR) (xs : List Mk.M) (nm : List UInt8) (w : World) (h : MarksIn a n c rs xs w) :
    Calls Try.prog 16 #[.slice a n c, .string (bs nm)] w fun e w' => e = .returned (.int .i64 (Mk.lastI xs nm (Mk.behind xs n) n)) ∧ w = w' := by
  have HH := hid h
  have HB := hid (rbehind_any a n c rs xs w h)
  have hf := h.few
  have hbn := Mk.behind_le xs n
  obtain ⟨B, hB⟩ : ∃ B, Mk.behind xs n = B := ⟨_, rfl⟩
  rw [hB] at HB hbn ⊢
  obtain ⟨R, hR⟩ : ∃ R, Mk.lastI xs nm B n = R := ⟨_, rfl⟩
  rw [hR]
  have HR := hid hR
  obtain ⟨X, hX⟩ : ∃ X, bs nm = X := ⟨_, rfl⟩
  rw [hX]
  have HX := hid hX
  clear h hR hB hX
  go_enter Try.func16, Try.ntmps16
  go_wp2
  go_loopg [5] n (fun g iv wr => ∃ k : Nat, k = g ∧ k ≤ n ∧ iv = .int .i64 ((k : Int) - 1) ∧ Hid (Mk.lastI xs nm B k = R) ∧ w = wr)
  case atStart => exact ⟨n, rfl, Nat.le_refl _, by go_num, HR, rfl⟩
  case round =>
    obtain ⟨kk, hk, hg, rfl, hI, rfl⟩ := hrel
    by_cases hlt : kk ≤ B
    · have d0 : decide ((B : Int) ≤ (kk : Int) - 1) = false := decide_eq_false (by omega)
      have d0' : ¬ (B : Int) ≤ (kk : Int) - 1 := by omega
      have HR2 := hid (show -1 = R by rw [← hI.out, Mk.lastI_stop xs nm hlt])
      clear hI
      go_wp2_with fail
      refine HB.out.mono ?_
      rintro e w2 ⟨rfl, rfl⟩
      go_wp2
      go_ret
      exact ⟨by rw [← HR2.out]; rfl, rfl⟩
    · obtain ⟨k, rfl⟩ : ∃ k, kk = k + 1 := ⟨kk - 1, by omega⟩
      have kk1 : ((k + 1 : Nat) : Int) - 1 = (k : Int) := by omega
      rw [kk1]
      have d0 : decide ((B : Int) ≤ (k : Int)) = true := decide_eq_true (by omega)
      have d0' : (B : Int) ≤ (k : Int) := by omega
      obtain ⟨blk, off, r, x, rfl, hr, hx, f, c0, c1, c2⟩ := HH.out.get (show k < n by omega)
      have hkl : (k : Int) < (n : Int) := by omega
      have hkl2 : k < n := by omega
      rw [Mk.lastI_step (by omega) hx] at hI
      clear hx f
      go_wp2_with fail
      refine HB.out.mono ?_
      rintro e w2 ⟨rfl, rfl⟩
      by_cases hs : x.name = nm
      · have he : ((bs x.name).toList == X.toList) = true := by rw [hs, HX.out]; exact beq_iff_eq.2 rfl
        have HR2 := hid (show (k : Int) = R by rw [← hI.out, if_pos hs])
        clear hI hs
        go_wp2
        go_ret
        exact ⟨by rw [← HR2.out]; rfl, rfl⟩
      · have he : ((bs x.name).toList == X.toList) = false := beq_eq_false_iff_ne.2 fun e => hs (bs_inj (e.trans (by rw [HX.out])))
        have HN := hid (show Mk.lastI xs nm B k = R by rw [← hI.out, if_neg hs])
        clear hI hs
        go_wp2
        go_roundg k
        case measure => omega
        case rel => exact ⟨k, rfl, by omega, by go_num, HN, rfl⟩
/-- What Find says: nothing, of a number below 0. -/
def findR (xs : List Mk.M) (id : Int) : Int := if id < 0 then -1 else Mk.findI xs id 0 xs.length
set_option maxHeartbeats 2000000 in
theorem rfind_any (a : Option Addr) (n c : Nat) (rs : List MR) (xs : List Mk.M) (id : Int) (w : World) (h : MarksIn a n c rs xs w) :
    Calls Try.prog 18 #[.slice a n c, .int .i64 id] w fun e w' => e = .returned (.int .i64 (findR xs id)) ∧ w = w' := by
  have HH := hid h
  have hf := h.few
  have hl := h.len
  by_cases hid0 : id < 0
  · have hR : findR xs id = -1 := by unfold findR; rw [if_pos hid0]
    rw [hR]
    have d2 : decide ((0 : Int) ≤ id) = false := decide_eq_false (by omega)
    have d2' : ¬ (0 : Int) ≤ id := by omega
    clear h hR
    by_cases hn : 0 < n
    · have d1 : decide ((0 : Int) < (n : Int)) = true := decide_eq_true (by omega)
      have d1' : (0 : Int) < (n : Int) := by omega
      go_enter Try.func18, Try.ntmps18
      go_wp2
      go_loopg [5] n (fun g iv wr => iv = .int .i64 0 ∧ g = n ∧ w = wr)
      case atStart => exact ⟨rfl, rfl, rfl⟩
      case round =>
        obtain ⟨rfl, _, rfl⟩ := hrel
        go_wp2
        go_ret
        exact ⟨rfl, rfl⟩
    · obtain rfl : n = 0 := by omega
      go_enter Try.func18, Try.ntmps18
      go_wp2
      go_loopg [5] 0 (fun g iv wr => iv = .int .i64 0 ∧ g = 0 ∧ w = wr)
      case atStart => exact ⟨rfl, rfl, rfl⟩
      case round =>
        obtain ⟨rfl, _, rfl⟩ := hrel
        go_wp2
        go_ret
        exact ⟨rfl, rfl⟩
  · have hR : findR xs id = Mk.findI xs id 0 n := by unfold findR; rw [if_neg hid0, hl]
    rw [hR]
    obtain ⟨R, hR2⟩ : ∃ R, Mk.findI xs id 0 n = R := ⟨_, rfl⟩
    rw [hR2]
    have HR := hid hR2
    have d2 : decide ((0 : Int) ≤ id) = true := decide_eq_true (by omega)
    have d2' : (0 : Int) ≤ id := by omega
    clear h hR hR2
    go_enter Try.func18, Try.ntmps18
    go_wp2
    go_loopg [5] n (fun g iv wr => ∃ k : Nat, k + g = n ∧ iv = .int .i64 k ∧ Hid (Mk.findI xs id k g = R) ∧ w = wr)
    case atStart => exact ⟨0, by omega, rfl, HR, rfl⟩
    case round =>
      obtain ⟨k, hk, rfl, hI, rfl⟩ := hrel
      by_cases hlt : k < n
      · have d1 : decide (k < n) = true := decide_eq_true hlt
        have hltI : (k : Int) < (n : Int) := by omega
        obtain ⟨blk, off, r, x, rfl, hr, hx, f, c0, c1, c2⟩ := HH.out.get hlt
        have eg : gk = (n - (k + 1)) + 1 := by omega
        rw [eg] at hI
        rw [Mk.findI_step hx] at hI
        by_cases hs : x.id = id
        · have d3 : (x.id == id) = true := by simp [hs]
          have HR2 := hid (show (k : Int) = R by rw [← hI.out, if_pos hs])
          clear hI hx f
          go_wp2
          go_ret
          exact ⟨by rw [← HR2.out]; rfl, rfl⟩
        · have d3 : (x.id == id) = false := by simp [hs]
          have HN := hid (show Mk.findI xs id (k + 1) (n - (k + 1)) = R by rw [← hI.out, if_neg hs])
          clear hI hx f
          go_wp2
          go_roundg (n - (k + 1))
          case measure => omega
          case rel => exact ⟨k + 1, by omega, by go_num, HN, rfl⟩
      · have d1 : decide (k < n) = false := decide_eq_false hlt
        have hltI : ¬ (k : Int) < (n : Int) := by omega
        have HR2 := hid (show -1 = R by
          have e := hI.out
          rw [show gk = 0 from by omega] at e
          exact e)
        clear hI
        go_wp2
        go_ret
        exact ⟨by rw [← HR2.out]; rfl, rfl⟩
end Go.Proofs.Ytmgbjkekfejnfaa
