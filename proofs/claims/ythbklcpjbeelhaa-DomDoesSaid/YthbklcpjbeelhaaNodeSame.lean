/- Walks: what the statements of several layers share: are two lists of attributes alike. Walks: tympanref00.SameNodes of two lists of the same nodes. -/
import Derived.Test.YthbklcpjbeelhaaAppT
import Derived.Test.YthbklcpjbeelhaaNodeArg
import Derived.Test.YthbklcpjbeelhaaWld
import Derived.Deep.LoopGhost
import Derived.IntWalk
namespace Go.Proofs.Ythbklcpjbeelhaa
open Go.RowKit Go.Lib
set_option maxRecDepth 100000
set_option linter.unusedVariables false

set_option maxHeartbeats 2000000 in
theorem sameAt_any (a1 : Option Addr) (n1 c1 : Nat) (ats : List (List UInt8 × List UInt8)) (a2 : Option Addr) (n2 c2 : Nat) (ats' : List (List UInt8 × List UInt8)) (w : World) (h : IsA w a1 n1 ats) (g : IsA w a2 n2 ats') (hs1 : n1 ≤ 4294967296) (hs2 : n2 ≤ 4294967296) :
    Calls Try.prog 62 #[.slice a1 n1 c1, .slice a2 n2 c2] w fun e w' => e = .returned (.bool (decide (ats = ats'))) ∧ Below w.heap.size w w' := by
  have HH := hid h
  have HG := hid g
  have hl1 := h.1
  have hl2 := g.1
  obtain ⟨c, hc⟩ : ∃ c, decide (ats = ats') = c := ⟨_, rfl⟩
  rw [hc]
  have HC := hid hc
  clear h g hc
  by_cases hne : n1 = n2
  · subst hne
    have HL1 := hid hl1
    have HL2 := hid hl2
    have d0 : ((n1 : Int) != (n1 : Int)) = false := by simp
    clear hl1 hl2
    go_enter Try.func62, Try.ntmps62
    go_wp2
    go_loopg [5] n1 (fun g iv wr => ∃ k : Nat, k + g = n1 ∧ iv = .int .i64 k ∧ Hid (ats.take k = ats'.take k) ∧ Below w.heap.size w wr)
    case atStart => exact ⟨0, by omega, rfl, hid rfl, Below.refl _ _⟩
    case round =>
      obtain ⟨k, hk, rfl, hI, hb⟩ := hrel
      by_cases hlt : k < n1
      · have d1 : decide (k < n1) = true := decide_eq_true hlt
        have hltI : (k : Int) < (n1 : Int) := by omega
        obtain ⟨_, z0 | ⟨b1, o1, rfl, hat⟩⟩ := HH.out.below hb
        · omega
        obtain ⟨_, z0 | ⟨b2, o2, rfl, hau⟩⟩ := HG.out.below hb
        · omega
        obtain ⟨⟨x, y⟩, hx⟩ : ∃ x, ats[k]? = some x := ⟨_, List.getElem?_eq_getElem (by have := HL1.out; omega)⟩
        obtain ⟨⟨x', y'⟩, hy⟩ : ∃ y, ats'[k]? = some y := ⟨_, List.getElem?_eq_getElem (by have := HL2.out; omega)⟩
        obtain ⟨e0, e1⟩ := hat k _ hx
        obtain ⟨f0, f1⟩ := hau k _ hy
        simp only at e0 e1 f0 f1
        by_cases he : x = x'
        · by_cases hf : y = y'
          · have HN := hid (take_more hI.out hx (by rw [he, hf]; exact hy))
            rw [← he] at f0
            rw [← hf] at f1
            generalize bs x = X at *
            generalize bs y = Y at *
            clear he hf hx hy hat hau hI
            go_wp2
            go_region
            go_wp2
            go_roundg (n1 - (k + 1))
            case measure => omega
            case rel => exact ⟨k + 1, by omega, by go_num, HN, bel_drewN hb 1⟩
          · have HR := hid (show c = false by rw [← HC.out, decide_eq_false (get_ne hx hy fun e => hf (congrArg Prod.snd e))])
            have t0 : ¬ (bs y).toList = (bs y').toList := fun e => hf (bs_inj e)
            rw [← he] at f0
            generalize bs x = X at *
            generalize bs y = Y at *
            generalize bs y' = Y' at *
            clear he hf hx hy hat hau hI
            go_wp2
            go_region
            go_wp2
            go_ret
            exact ⟨ret_bool' HR.out.symm, bel_drewN hb 1⟩
        · have HR := hid (show c = false by rw [← HC.out, decide_eq_false (get_ne hx hy fun e => he (congrArg Prod.fst e))])
          have t0 : ¬ (bs x).toList = (bs x').toList := fun e => he (bs_inj e)
          generalize bs x = X at *
          generalize bs x' = X' at *
          generalize bs y = Y at *
          generalize bs y' = Y' at *
          clear he hx hy hat hau hI
          go_wp2
          go_region
          go_wp2
          go_ret
          exact ⟨ret_bool' HR.out.symm, bel_drewN hb 1⟩
      · have d1 : decide (k < n1) = false := decide_eq_false hlt
        have hltI : ¬ (k : Int) < (n1 : Int) := by omega
        have HR := hid (show c = true by
          rw [← HC.out, decide_eq_true (take_all hI.out HL1.out HL2.out hlt)])
        clear hI
        go_wp2
        go_ret
        exact ⟨ret_bool' HR.out.symm, hb⟩
  · have d0 : ((n1 : Int) != (n2 : Int)) = true := by simp; omega
    have HR := hid (show c = false by rw [← HC.out]; exact decide_eq_false fun e => hne (by rw [← hl1, ← hl2, e]))
    clear hl1 hl2
    go_enter Try.func62, Try.ntmps62
    go_wp2
    go_ret
    exact ⟨ret_bool' HR.out.symm, Below.refl _ _⟩
end Go.Proofs.Ythbklcpjbeelhaa
namespace Go.Proofs.Ythbklcpjbeelhaa
open Go.RowKit Go.Lib
set_option maxRecDepth 100000
set_option linter.unusedVariables false

/-- What SameNodes is known to tell of lists that stand at most d deep. -/
def SameNC (d : Nat) : Prop := ∀ (S1 S2 : Nat → Prop) (ns : List Dom.N) (a1 : Option Addr) (n c1 : Nat) (a2 : Option Addr) (c2 : Nat) (w : World), IsN S1 d w a1 n ns → IsN S2 d w a2 n ns → Dom.sumW d ns ≤ 1000000000 →
  Calls Try.prog 31 #[.slice a1 n c1, .slice a2 n c2] w fun e w' => e = .returned (.bool true) ∧ Below w.heap.size w w'
set_option maxHeartbeats 8000000 in
theorem sameN_zero : SameNC 0 := by
  intro S1 S2 ns a1 n c1 a2 c2 w h g hw
  obtain ⟨rfl, rfl⟩ := h
  clear g hw
  go_enter Try.func31, Try.ntmps31
  go_wp2
  go_loopg [5] 0 (fun g iv wr => iv = .int .i64 0 ∧ wr = w)
  case atStart => exact ⟨rfl, rfl⟩
  case round =>
    obtain ⟨rfl, rfl⟩ := hrel
    go_wp2
    go_ret
    exact ⟨rfl, Below.refl _ _⟩
set_option maxHeartbeats 8000000 in
theorem sameN_succ (d : Nat) (IH : SameNC d) : SameNC (d + 1) := by
  intro S1 S2 ns a1 n c1 a2 c2 w h g hw
  have HH := hid h
  have HG := hid g
  have HIH := hid IH
  have HW := hid hw
  have hlen := h.len
  have hn : n ≤ 1000000000 := by have := Dom.sumW_len d ns; omega
  have HLN := hid hlen
  have d0 : ((n : Int) != (n : Int)) = false := by simp
  clear h g IH hw hlen
  go_enter Try.func31, Try.ntmps31
  go_wp2
  go_loopg [5] n (fun g iv wr => ∃ k : Nat, k + g = n ∧ iv = .int .i64 k ∧ Hid (Below w.heap.size w wr))
  case atStart => exact ⟨0, by omega, rfl, hid (Below.refl _ _)⟩
  case round =>
    obtain ⟨k, hk, rfl, hB⟩ := hrel
    by_cases hlt : k < n
    · have d1 : decide (k < n) = true := decide_eq_true hlt
      have hltI : (k : Int) < (n : Int) := by omega
      obtain ⟨x, hx⟩ : ∃ x, ns[k]? = some x := ⟨_, List.getElem?_eq_getElem (by have := HLN.out; omega)⟩
      have hwx := Dom.sumW_mem (d := d) (List.mem_of_getElem? hx)
      have hax := Dom.sumA_len x.atts
      obtain ⟨b1, o1, rfl, _, hat⟩ := (HH.out.below hB.out).at (by omega)
      obtain ⟨b2, o2, rfl, _, hau⟩ := (HG.out.below hB.out).at (by omega)
      obtain ⟨aa1, an1, ac1, ka1, kn1, kc1, X⟩ := hat k x hx
      obtain ⟨aa2, an2, ac2, ka2, kn2, kc2, Y⟩ := hau k x hx
      have hka1 := X.kids.len
      have hka2 := Y.kids.len
      obtain rfl : kn1 = kn2 := by omega
      have l1 := X.atts.1
      have l2 := Y.atts.1
      have x0 := X.c0
      have x1 := X.c1
      have x2 := X.c2
      have x3 := X.c3
      have x4 := X.c4
      have x5 := X.c5
      have hWle := HW.out
      have SA := hid fun W (hW : Below wr.heap.size wr W) => sameAt_any aa1 an1 ac1 x.atts aa2 an2 ac2 x.atts W (X.atts.below hW) (Y.atts.below hW) (by omega) (by omega)
      have SK := hid fun W (hW : Below wr.heap.size wr W) => HIH.out S1 S2 x.kids ka1 kn1 kc1 ka2 kc2 W (X.kids.below hW) (Y.kids.below hW) (by omega)
      have al1 : Below wr.heap.size wr (wr.alloc (.cells #[.int .u8 x.kind, .int .u8 x.space, .string (bs x.name), .slice aa1 an1 ac1, .string (bs x.text), .slice ka1 kn1 kc1] 32)) := (Below.refl _ wr).alloc (Nat.le_refl _) _
      have y0 := cell_up Y.c0 al1
      have y1 := cell_up Y.c1 al1
      have y2 := cell_up Y.c2 al1
      have y3 := cell_up Y.c3 al1
      have y4 := cell_up Y.c4 al1
      have y5 := cell_up Y.c5 al1
      have HX := hid X
      have HY := hid Y
      have hN2 : (decide (x.atts = x.atts)) = true := decide_eq_true rfl
      clear hat hau X Y hx hwx hax hka1 hka2 l1 l2 hWle al1
      generalize bs x.name = NM at *
      generalize bs x.text = TX at *
      generalize x.kind = K at *
      generalize x.space = SP at *
      rw [hN2] at SA
      have al2 : Below wr.heap.size wr ((wr.alloc (.cells #[.int .u8 K, .int .u8 SP, .string NM, .slice aa1 an1 ac1, .string TX, .slice ka1 kn1 kc1] 32)).alloc (.cells #[.int .u8 K, .int .u8 SP, .string NM, .slice aa2 an2 ac2, .string TX, .slice ka2 kn1 kc2] 32)) := ((Below.refl _ wr).alloc (Nat.le_refl _) _).alloc (by simp) _
      have AL2 := hid al2
      have P1 := hid ((BlkW.new wr #[.int .u8 K, .int .u8 SP, .string NM, .slice aa1 an1 ac1, .string TX, .slice ka1 kn1 kc1] 32).alloc (.cells #[.int .u8 K, .int .u8 SP, .string NM, .slice aa2 an2 ac2, .string TX, .slice ka2 kn1 kc2] 32))
      have P2 := hid (BlkW.new (wr.alloc (.cells #[.int .u8 K, .int .u8 SP, .string NM, .slice aa1 an1 ac1, .string TX, .slice ka1 kn1 kc1] 32)) #[.int .u8 K, .int .u8 SP, .string NM, .slice aa2 an2 ac2, .string TX, .slice ka2 kn1 kc2] 32)
      clear al2
      go_wp2_with fail
      refine (SA.out _ AL2.out).mono ?_
      rintro e w3 ⟨rfl, b3⟩
      have q1 := (P1.out.below b3 P1.out.lt).cell 5
      have q2 := (P2.out.below b3 P2.out.lt).cell 5
      rw [World.size_alloc] at q2
      simp only [List.getElem?_toArray, List.getElem?_cons_zero, List.getElem?_cons_succ] at q1 q2
      have AL3 := hid (AL2.out.trans (b3.mono AL2.out.size))
      clear b3 x0 x1 x2 x3 x4 x5 y0 y1 y2 y3 y4 y5
      go_wp2_with fail
      refine (SK.out _ AL3.out).mono ?_
      rintro e w4 ⟨rfl, b4⟩
      have HBn := hid (hB.out.trans ((AL3.out.trans (b4.mono AL3.out.size)).mono hB.out.size))
      clear b4 q1 q2
      go_wp2
      go_roundg (n - (k + 1))
      case measure => omega
      case rel => exact ⟨k + 1, by omega, by go_num, HBn⟩
    · have d1 : decide (k < n) = false := decide_eq_false hlt
      have hltI : ¬ (k : Int) < (n : Int) := by omega
      go_wp2
      go_ret
      exact ⟨rfl, hB.out⟩
theorem sameN_any : ∀ d, SameNC d
  | 0 => sameN_zero
  | d + 1 => sameN_succ d (sameN_any d)
end Go.Proofs.Ythbklcpjbeelhaa
