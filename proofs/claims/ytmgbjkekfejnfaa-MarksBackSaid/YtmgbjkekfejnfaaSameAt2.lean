/- Walks: are two lists of attributes alike, of any length. -/
import Derived.Test.YtmgbjkekfejnfaaPairs
import Derived.Deep.LoopGhost
import Derived.IntWalk
namespace Go.Proofs.Ytmgbjkekfejnfaa
open Go.RowKit Go.Lib
set_option maxRecDepth 100000
set_option linter.unusedVariables false

set_option maxHeartbeats 2000000 in
theorem sameAt2_any (a1 : Option Addr) (n1 c1 : Nat) (ats : List (List UInt8 × List UInt8)) (a2 : Option Addr) (n2 c2 : Nat) (ats' : List (List UInt8 × List UInt8)) (w : World) (h : IsA w a1 n1 ats) (g : IsA w a2 n2 ats') (hs1 : n1 ≤ 9223372036854775807) (hs2 : n2 ≤ 9223372036854775807) :
    Calls Try.prog 24 #[.slice a1 n1 c1, .slice a2 n2 c2] w fun e w' => e = .returned (.bool (decide (ats = ats'))) ∧ Below w.heap.size w w' := by
  have HH := hid h
  have HG := hid g
  have hl1 := h.1
  have hl2 := g.1
  obtain ⟨c, hc⟩ : ∃ c, decide (ats = ats') = c := ⟨_, rfl⟩
  rw [hc]
  have HC := hid hc
  clear h g hc
  by_cases hne : n1 = n2
  · subst hne
    have HL1 := hid hl1
    have HL2 := hid hl2
    have d0 : ((n1 : Int) != (n1 : Int)) = false := by simp
    clear hl1 hl2
    go_enter Try.func24, Try.ntmps24
    go_wp2
    go_loopg [5] n1 (fun g iv wr => ∃ k : Nat, k + g = n1 ∧ iv = .int .i64 k ∧ Hid (ats.take k = ats'.take k) ∧ Below w.heap.size w wr)
    case atStart => exact ⟨0, by omega, rfl, hid rfl, Below.refl _ _⟩
    case round =>
      obtain ⟨k, hk, rfl, hI, hb⟩ := hrel
      by_cases hlt : k < n1
      · have d1 : decide (k < n1) = true := decide_eq_true hlt
        have hltI : (k : Int) < (n1 : Int) := by omega
        obtain ⟨_, z0 | ⟨b1, o1, rfl, hat⟩⟩ := HH.out.below hb
        · omega
        obtain ⟨_, z0 | ⟨b2, o2, rfl, hau⟩⟩ := HG.out.below hb
        · omega
        obtain ⟨⟨x, y⟩, hx⟩ : ∃ x, ats[k]? = some x := ⟨_, List.getElem?_eq_getElem (by have := HL1.out; omega)⟩
        obtain ⟨⟨x', y'⟩, hy⟩ : ∃ y, ats'[k]? = some y := ⟨_, List.getElem?_eq_getElem (by have := HL2.out; omega)⟩
        obtain ⟨e0, e1⟩ := hat k _ hx
        obtain ⟨f0, f1⟩ := hau k _ hy
        simp only at e0 e1 f0 f1
        by_cases he : x = x'
        · by_cases hf : y = y'
          · have HN := hid (take_more hI.out hx (by rw [he, hf]; exact hy))
            rw [← he] at f0
            rw [← hf] at f1
            generalize bs x = X at *
            generalize bs y = Y at *
            clear he hf hx hy hat hau hI
            go_wp2
            go_region
            go_wp2
            go_roundg (n1 - (k + 1))
            case measure => omega
            case rel => exact ⟨k + 1, by omega, by go_num, HN, bel_drewN hb 1⟩
          · have HR := hid (show c = false by rw [← HC.out, decide_eq_false (get_ne hx hy fun e => hf (congrArg Prod.snd e))])
            have t0 : ¬ (bs y).toList = (bs y').toList := fun e => hf (bs_inj e)
            rw [← he] at f0
            generalize bs x = X at *
            generalize bs y = Y at *
            generalize bs y' = Y' at *
            clear he hf hx hy hat hau hI
            go_wp2
            go_region
            go_wp2
            go_ret
            exact ⟨ret_bool' HR.out.symm, bel_drewN hb 1⟩
        · have HR := hid (show c = false by rw [← HC.out, decide_eq_false (get_ne hx hy fun e => he (congrArg Prod.fst e))])
          have t0 : ¬ (bs x).toList = (bs x').toList := fun e => he (bs_inj e)
          generalize bs x = X at *
          generalize bs x' = X' at *
          generalize bs y = Y at *
          generalize bs y' = Y' at *
          clear he hx hy hat hau hI
          go_wp2
          go_region
          go_wp2
          go_ret
          exact ⟨ret_bool' HR.out.symm, bel_drewN hb 1⟩
      · have d1 : decide (k < n1) = false := decide_eq_false hlt
        have hltI : ¬ (k : Int) < (n1 : Int) := by omega
        have HR := hid (show c = true by
          rw [← HC.out, decide_eq_true (take_all hI.out HL1.out HL2.out hlt)])
        clear hI
        go_wp2
        go_ret
        exact ⟨ret_bool' HR.out.symm, hb⟩
  · have d0 : ((n1 : Int) != (n2 : Int)) = true := by simp; omega
    have HR := hid (show c = false by rw [← HC.out]; exact decide_eq_false fun e => hne (by rw [← hl1, ← hl2, e]))
    clear hl1 hl2
    go_enter Try.func24, Try.ntmps24
    go_wp2
    go_ret
    exact ⟨ret_bool' HR.out.symm, Below.refl _ _⟩
end Go.Proofs.Ytmgbjkekfejnfaa
