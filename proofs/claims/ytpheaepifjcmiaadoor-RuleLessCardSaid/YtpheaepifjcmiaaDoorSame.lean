/- Walks: what the statements of several layers share: are two lists of texts, two policies alike. -/
import Derived.Test.YtpheaepifjcmiaaDoorRefIn
import Derived.Test.YtpheaepifjcmiaaDoorCheck
namespace Go.Proofs.YtpheaepifjcmiaaDoor
open Go.RowKit Go.Lib Rule
set_option maxRecDepth 100000
set_option linter.unusedVariables false

theorem take_more {α : Type} {l m : List α} {k : Nat} {x : α} (h : l.take k = m.take k) (hl : l[k]? = some x) (hm : m[k]? = some x) : l.take (k + 1) = m.take (k + 1) := by
  rw [List.take_add_one, List.take_add_one, h, hl, hm]
theorem take_all {α : Type} {l m : List α} {k n : Nat} (h : l.take k = m.take k) (hl : l.length = n) (hm : m.length = n) (hk : ¬ k < n) : l = m := by
  rwa [List.take_of_length_le (by omega), List.take_of_length_le (by omega)] at h
theorem get_ne {α : Type} {l m : List α} {k : Nat} {x y : α} (hl : l[k]? = some x) (hm : m[k]? = some y) (h : x ≠ y) : ¬ l = m := by
  intro e
  rw [e, hm] at hl
  exact h (Option.some.inj hl).symm
set_option maxHeartbeats 1000000 in
theorem sameS_any (a1 : Option Addr) (n1 c1 : Nat) (es : List (List UInt8)) (a2 : Option Addr) (n2 c2 : Nat) (fs : List (List UInt8)) (w : World) (h : IsS w a1 n1 es) (g : IsS w a2 n2 fs) (hs1 : n1 ≤ 4294967296) (hs2 : n2 ≤ 4294967296) :
    Calls Tryd.prog 29 #[.slice a1 n1 c1, .slice a2 n2 c2] w fun e w' => e = .returned (.bool (decide (es = fs))) ∧ Below w.heap.size w w' := by
  have HH := hid h
  have HG := hid g
  have hl1 := h.1
  have hl2 := g.1
  obtain ⟨c, hc⟩ : ∃ c, decide (es = fs) = c := ⟨_, rfl⟩
  rw [hc]
  have HC := hid hc
  clear h g hc
  by_cases hne : n1 = n2
  · subst hne
    have HL1 := hid hl1
    have HL2 := hid hl2
    have d0 : ((n1 : Int) != (n1 : Int)) = false := by simp
    clear hl1 hl2
    go_enter Tryd.func29, Tryd.ntmps29
    go_wp2
    go_loopg [5] n1 (fun g iv wr => ∃ k : Nat, k + g = n1 ∧ iv = .int .i64 k ∧ Hid (es.take k = fs.take k) ∧ Below w.heap.size w wr)
    case atStart => exact ⟨0, by omega, rfl, hid rfl, Below.refl _ _⟩
    case round =>
      obtain ⟨k, hk, rfl, hI, hb⟩ := hrel
      by_cases hlt : k < n1
      · have d1 : decide (k < n1) = true := decide_eq_true hlt
        have hltI : (k : Int) < (n1 : Int) := by omega
        obtain ⟨_, h0 | ⟨b1, o1, rfl, hat⟩⟩ := HH.out.below hb
        · omega
        obtain ⟨_, h0 | ⟨b2, o2, rfl, hau⟩⟩ := HG.out.below hb
        · omega
        obtain ⟨x, hx⟩ : ∃ x, es[k]? = some x := ⟨_, List.getElem?_eq_getElem (by have := HL1.out; omega)⟩
        obtain ⟨y, hy⟩ : ∃ y, fs[k]? = some y := ⟨_, List.getElem?_eq_getElem (by have := HL2.out; omega)⟩
        have hc0 : wr.cell? ⟨b1, o1 + k, none⟩ = some (.string (bs x)) := hat k _ hx
        have hc1 : wr.cell? ⟨b2, o2 + k, none⟩ = some (.string (bs y)) := hau k _ hy
        by_cases he : x = y
        · have HN := hid (take_more hI.out hx (by rw [he]; exact hy))
          have t1 : ((bs x).toList == (bs x).toList) = true := by simp
          have t2 : (!((bs x).toList == (bs x).toList)) = false := by simp
          rw [← he] at hc1
          generalize bs x = X at *
          clear he hx hy hat hau hI
          go_wp2
          go_region
          go_wp2
          go_roundg (n1 - (k + 1))
          case measure => omega
          case rel => exact ⟨k + 1, by omega, by go_num, HN, bel_drewN hb 1⟩
        · have HR := hid (show c = false by rw [← HC.out]; exact decide_eq_false (get_ne hx hy he))
          have t0 : ¬ (bs x).toList = (bs y).toList := fun e => he (bs_inj e)
          have t1 : ((bs x).toList == (bs y).toList) = false := beq_eq_false_iff_ne.2 fun e => he (bs_inj e)
          generalize bs x = X at *
          generalize bs y = Y at *
          clear he hx hy hat hau hI
          go_wp2
          go_region
          go_wp2
          go_ret
          exact ⟨ret_bool' HR.out.symm, bel_drewN hb 1⟩
      · have d1 : decide (k < n1) = false := decide_eq_false hlt
        have hltI : ¬ (k : Int) < (n1 : Int) := by omega
        have HR := hid (show c = true by rw [← HC.out]; exact decide_eq_true (take_all hI.out HL1.out HL2.out hlt))
        clear hI
        go_wp2
        go_ret
        exact ⟨ret_bool' HR.out.symm, hb⟩
  · have d0 : ((n1 : Int) != (n2 : Int)) = true := by simp; omega
    have HR := hid (show c = false by rw [← HC.out]; exact decide_eq_false fun e => hne (by rw [← hl1, ← hl2, e]))
    clear hl1 hl2 hne
    go_enter Tryd.func29, Tryd.ntmps29
    go_wp2
    go_ret
    exact ⟨ret_bool' HR.out.symm, Below.refl _ _⟩
end Go.Proofs.YtpheaepifjcmiaaDoor
