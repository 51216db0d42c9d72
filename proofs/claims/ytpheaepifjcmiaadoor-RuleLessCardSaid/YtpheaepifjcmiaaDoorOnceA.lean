/- Walks: package rule, a list of pairs once, each as it may be. -/
import Derived.Test.YtpheaepifjcmiaaDoorMay
import Derived.Deep.RegionHeld3
namespace Go.Proofs.YtpheaepifjcmiaaDoor
open Go.RowKit Go.Lib Rule
set_option maxRecDepth 100000
set_option linter.unusedVariables false

set_option maxHeartbeats 2000000 in
theorem onceA_any (p : List UInt8 × List UInt8 → Bool) (P K : Nat) (a : Option Addr) (len cap : Nat) (ls : List (List UInt8 × List UInt8)) (w : World) (h : IsA w a len ls) (hlc : len ≤ cap) (hcm : cap ≤ 9223372036854775807)
    (HF : ∀ W, Below w.heap.size w W → ∀ l m, (l, m) ∈ ls → Calls Tryd.prog 18 #[.agg #[.string (bs l), .string (bs m)], .pointer (some ⟨P, 0, none⟩), .pointer (some ⟨K, 0, none⟩)] W fun e W' => e = .returned (.bool (p (l, m))) ∧ Below W.heap.size W W') :
    Calls Tryd.prog 23 #[.slice a len cap, .func (.func 18) #[] #[.pointer (some ⟨P, 0, none⟩), .pointer (some ⟨K, 0, none⟩)]] w fun e w' => e = .returned (.bool (listB p ls)) ∧ Below w.heap.size w w' := by
  have HH := hid h
  have HG := hid HF
  obtain ⟨c, hc⟩ : ∃ c, listB p ls = c := ⟨_, rfl⟩
  rw [hc]
  have HC := hid hc
  have hll := h.1
  clear h HF hc
  by_cases h4 : 400 < len
  · have d0 : decide ((400 : Int) < (len : Int)) = true := decide_eq_true (by omega)
    have HR := hid (show c = false by rw [← HC.out]; exact list_long (by omega))
    go_enter Tryd.func23, Tryd.ntmps23
    go_wp2
    go_ret
    exact ⟨ret_bool' HR.out.symm, Below.refl _ _⟩
  have d0 : decide ((400 : Int) < (len : Int)) = false := decide_eq_false (by omega)
  go_enter Tryd.func23, Tryd.ntmps23
  go_wp2
  go_loopg [12] len (fun g iv wr => ∃ k : Nat, k + g = len ∧ iv = .int .i64 k ∧ Hid (onceB p (ls.take k) = true) ∧ Below w.heap.size w wr)
  case atStart => exact ⟨0, by omega, rfl, hid (once_nil p), Below.refl _ _⟩
  case round =>
    obtain ⟨k, hk, rfl, hI, hb⟩ := hrel
    by_cases hlt : k < len
    · have d1 : decide (k < len) = true := decide_eq_true hlt
      have hltI : (k : Int) < (len : Int) := by omega
      have q1 : k ≤ cap := by omega
      have q2 : (k : Int) ≤ (cap : Int) := by omega
      have HB := hid (HH.out.below hb)
      obtain ⟨_, h0 | ⟨blk, off, rfl, hat⟩⟩ := HB.out
      · omega
      have hkl : k < ls.length := by omega
      obtain ⟨⟨l, m⟩, hl⟩ : ∃ z, ls[k]? = some z := ⟨_, List.getElem?_eq_getElem hkl⟩
      obtain ⟨hcell, hcell2⟩ := hat k _ hl
      simp only at hcell hcell2
      obtain ⟨X, hX⟩ : ∃ X, bs l = X := ⟨_, rfl⟩
      obtain ⟨Y, hY⟩ : ∃ Y, bs m = Y := ⟨_, rfl⟩
      rw [hX] at hcell
      rw [hY] at hcell2
      have hA := hid (hb.alloc hb.size (.cells #[.string X, .string Y] 36))
      have hA0 : (wr.alloc (.cells #[.string X, .string Y] 36)).cell? ⟨wr.heap.size, 0, none⟩ = some (.string X) := by simp
      have hA1 : (wr.alloc (.cells #[.string X, .string Y] 36)).cell? ⟨wr.heap.size, 1, none⟩ = some (.string Y) := by simp
      have hBA := hid (HB.out.below ((Below.refl wr.heap.size wr).alloc (Nat.le_refl _) (.cells #[.string X, .string Y] 36)))
      have HM := hid (List.mem_of_getElem? hl)
      have HL := hid hl
      have HI := hid hI
      have HX := hid hX
      have HY := hid hY
      clear hX hY hl hat hI hll
      go_wp2
      obtain ⟨WA, hWA⟩ : ∃ WA, wr.alloc (.cells #[.string X, .string Y] 36) = WA := ⟨_, rfl⟩
      obtain ⟨B, hB⟩ : ∃ B, wr.heap.size = B := ⟨_, rfl⟩
      rw [hWA] at hA hA0 hA1 hBA ⊢
      rw [hB] at hA0 hA1 ⊢
      have hBlt : B < WA.heap.size := World.block_lt_of_cell? _ _ hA0
      have c0 : ∀ W, Below WA.heap.size WA W → W.cell? ⟨B, 0, none⟩ = some (.string X) := fun W hW => (hW.cell (p := ⟨B, 0, none⟩) hBlt).trans hA0
      have c1 : ∀ W, Below WA.heap.size WA W → W.cell? ⟨B, 1, none⟩ = some (.string Y) := fun W hW => (hW.cell (p := ⟨B, 1, none⟩) hBlt).trans hA1
      have e0 : Below WA.heap.size WA WA := Below.refl _ _
      have H1 : ∀ W, Below WA.heap.size WA W → Calls Tryd.prog 18 #[.agg #[.string X, .string Y], .pointer (some ⟨P, 0, none⟩), .pointer (some ⟨K, 0, none⟩)] W fun e W' => e = .returned (.bool (p (l, m))) ∧ Below W.heap.size W W' := by
        intro W hW
        rw [← HX.out, ← HY.out]
        exact HG.out W (hA.out.trans (hW.mono hA.out.size)) l m HM.out
      cases hp : p (l, m) with
      | false =>
        have HR := hid (show c = false by rw [← HC.out]; exact list_bad HL.out (.inl hp))
        rw [hp] at H1
        have H1 := hid H1
        clear hp hB hWA hBlt hA0 hA1
        first
          | (go_region_with
                (first
                  | (go_at_call 18; with_reducible refine (H1.out _ e0.drew).mono ?_; rintro e w1 ⟨rfl, b1⟩; have e1 := e0.drew.trans (b1.mono e0.drew.size))))
          | fail
        all_goals go_wp2
        all_goals go_ret
        all_goals exact ⟨ret_bool' HR.out.symm, hA.out.trans (e1.mono hA.out.size)⟩
      | true =>
        rw [hp] at H1
        have H1 := hid H1
        have H2 : ∀ W, Below WA.heap.size WA W → Calls Tryd.prog 30 #[.slice (some ⟨blk, off, none⟩) k cap, .agg #[.string X, .string Y]] W fun e W' => e = .returned (.bool ((ls.take k).contains (l, m))) ∧ Below W.heap.size W W' := by
          intro W hW
          rw [← HX.out, ← HY.out]
          exact containsA_any _ k cap _ l m W ((hBA.out.take k (by omega)).below hW) (by omega) q1 hcm
        cases hn : (ls.take k).contains (l, m) with
        | true =>
          have HR := hid (show c = false by rw [← HC.out]; exact list_bad HL.out (.inr hn))
          rw [hn] at H2
          have H2 := hid H2
          clear hp hB hWA hA0 hA1 hBlt hn
          go_region_held3 (fun w' => w'.cell? ⟨B, 0, none⟩ = some (.string X) ∧ w'.cell? ⟨B, 1, none⟩ = some (.string Y) ∧ Below WA.heap.size WA w') (first | exact ⟨c0 _ e2, c1 _ e2, e2⟩ | exact ⟨c0 _ e1, c1 _ e1, e1⟩ | exact ⟨c0 _ e0.drew, c1 _ e0.drew, e0.drew⟩ | exact ⟨c0 _ e0, c1 _ e0, e0⟩)
            (first
              | (go_at_call 18; with_reducible refine (H1.out _ e0.drew).mono ?_; rintro e w1 ⟨rfl, b1⟩; have e1 := e0.drew.trans (b1.mono e0.drew.size))
              | (go_at_call 30; with_reducible refine (H2.out _ e1).mono ?_; rintro e w2 ⟨rfl, b2⟩; have e2 := e1.trans (b2.mono e1.size)))
          go_wp2
          go_ret
          exact ⟨ret_bool' HR.out.symm, hA.out.trans (e2.mono hA.out.size)⟩
        | false =>
          have HN := hid (once_next HI.out HL.out hp hn)
          rw [hn] at H2
          have H2 := hid H2
          clear hp hB hWA hA0 hA1 hBlt hn
          go_region_held3 (fun w' => w'.cell? ⟨B, 0, none⟩ = some (.string X) ∧ w'.cell? ⟨B, 1, none⟩ = some (.string Y) ∧ Below WA.heap.size WA w') (first | exact ⟨c0 _ e2, c1 _ e2, e2⟩ | exact ⟨c0 _ e1, c1 _ e1, e1⟩ | exact ⟨c0 _ e0.drew, c1 _ e0.drew, e0.drew⟩ | exact ⟨c0 _ e0, c1 _ e0, e0⟩)
            (first
              | (go_at_call 18; with_reducible refine (H1.out _ e0.drew).mono ?_; rintro e w1 ⟨rfl, b1⟩; have e1 := e0.drew.trans (b1.mono e0.drew.size))
              | (go_at_call 30; with_reducible refine (H2.out _ e1).mono ?_; rintro e w2 ⟨rfl, b2⟩; have e2 := e1.trans (b2.mono e1.size)))
          go_wp2
          go_roundg (len - (k + 1))
          case measure => omega
          case rel => exact ⟨k + 1, by omega, by go_num, HN, hA.out.trans (e2.mono hA.out.size)⟩
    · have d1 : decide (k < len) = false := decide_eq_false hlt
      have hltI : ¬ (k : Int) < (len : Int) := by omega
      have HR := hid (show c = true by rw [← HC.out]; exact list_ok (by omega) (by rw [← hI.out, List.take_of_length_le (by omega)]))
      clear hI
      go_wp2
      go_ret
      exact ⟨ret_bool' HR.out.symm, hb⟩
end Go.Proofs.YtpheaepifjcmiaaDoor
