/- Walks: tympanref00.Nodes: how much nodes weigh. -/
import Derived.Test.YthbklcpjbeelhaaNodeArg
import Derived.Test.YthbklcpjbeelhaaAppT
import Derived.Test.YthbklcpjbeelhaaWld
import Derived.Deep.LoopGhost
import Derived.IntWalk
namespace Go.Proofs.Ythbklcpjbeelhaa
open Go.RowKit Go.Lib
set_option maxRecDepth 100000
set_option linter.unusedVariables false

/-- What Nodes is known to tell of lists that stand at most d deep. -/
def WeighC (d : Nat) : Prop := ∀ (S : Nat → Prop) (ns : List Dom.N) (a : Option Addr) (n c wt most : Nat) (w : World), IsN S d w a n ns → Dom.okL 9223372036854775807 d ns → n ≤ 9223372036854775807 → most ≤ 1000000 →
  Calls Try.prog 26 #[.slice a n c, .int .i64 wt, .int .i64 most] w fun e w' => e = .returned (.int .i64 (Dom.wtL most d wt ns : Nat)) ∧ Below w.heap.size w w'
set_option maxHeartbeats 8000000 in
theorem weigh_succ (d : Nat) (IH : WeighC d) : WeighC (d + 1) := by
  intro S ns a n c wt most w h ho hn hmost
  have HH := hid h
  have HIH := hid IH
  have HO := hid ho
  have HLN := hid h.len
  rw [Dom.wtL_eq]
  obtain ⟨R, hR⟩ : ∃ R, ns.foldl (Dom.stepN most d) wt = R := ⟨_, rfl⟩
  rw [hR]
  have H0 : Hid ((ns.drop 0).foldl (Dom.stepN most d) wt = R) := hid hR
  clear h IH ho hR
  go_enter Try.func26, Try.ntmps26
  go_wp2
  go_loopg [1, 7] n (fun g wv iv wr => ∃ k v : Nat, k + g = n ∧ iv = .int .i64 k ∧ wv = .int .i64 v ∧ Hid ((ns.drop k).foldl (Dom.stepN most d) v = R) ∧ Hid (Below w.heap.size w wr))
  case atStart => exact ⟨0, wt, by omega, rfl, rfl, H0, hid (Below.refl _ _)⟩
  case round =>
    obtain ⟨k, v, hk, rfl, rfl, hI, hB⟩ := hrel
    by_cases hlt : k < n
    · have d1 : decide (k < n) = true := decide_eq_true hlt
      have hltI : (k : Int) < (n : Int) := by omega
      have q1 : ((k : Int)).toNat = k := by omega
      have q2 : (0 : Int) ≤ (k : Int) := by omega
      by_cases hm : v ≤ most
      · have d2 : decide ((v : Int) ≤ (most : Int)) = true := decide_eq_true (by omega)
        have d2N : decide (v ≤ most) = true := decide_eq_true hm
        obtain ⟨x, hx⟩ : ∃ x, ns[k]? = some x := ⟨_, List.getElem?_eq_getElem (by have := HLN.out; omega)⟩
        obtain ⟨b, o, rfl, _, hat⟩ := (HH.out.below hB.out).at (by omega)
        obtain ⟨aa, an, ac, ka, kn, kc, X⟩ := hat k x hx
        have x2 := X.c2
        have x3 := X.c3
        have x4 := X.c4
        have x5 := X.c5
        obtain ⟨o1, o2, o3, o6, o5, o4⟩ := HO.out x (List.mem_of_getElem? hx)
        obtain ⟨NM, hNM⟩ : ∃ NM, bs x.name = NM := ⟨_, rfl⟩
        obtain ⟨TX, hTX⟩ : ∃ TX, bs x.text = TX := ⟨_, rfl⟩
        have s1 : NM.size = x.name.length := by rw [← hNM, size_eq]; rfl
        have s2 : TX.size = x.text.length := by rw [← hTX, size_eq]; rfl
        rw [hNM] at x2
        rw [hTX] at x4
        have HX := hid X
        have HO3 := hid o3
        have han : an ≤ 9223372036854775807 := by have h1 := X.atts.1; omega
        have HKN : Hid (kn ≤ 9223372036854775807) := hid (by have h1 := X.kids.len; have h2 := o5; omega)
        have HO4 := hid o4
        clear hat X hNM hTX o3 o4 o5 o6
        go_wp2
        go_region
        have e0 := hid ((Below.refl wr.heap.size wr).drew)
        obtain ⟨w1, hw1⟩ : ∃ w1, wr.drew = w1 := ⟨_, rfl⟩
        rw [hw1] at e0 ⊢
        have HX1 := hid (show NodeAt S (IsN S d w1) w1 b (o + k * 6) x aa an ac ka kn kc from ⟨cell_up HX.out.c0 e0.out, cell_up HX.out.c1 e0.out, cell_up HX.out.c2 e0.out, cell_up HX.out.c3 e0.out, cell_up HX.out.c4 e0.out, cell_up HX.out.c5 e0.out, HX.out.atts.below e0.out, HX.out.inS, HX.out.kids.below e0.out, HX.out.anil, HX.out.knil⟩)
        have HB1 := hid (hB.out.trans (e0.out.mono hB.out.size))
        clear x2 x3 x4 x5 hw1 e0 HX hB
        obtain ⟨v1, hv1⟩ : ∃ v1 : Nat, v + (1 + x.text.length / 8 + x.name.length / 8) = v1 := ⟨_, rfl⟩
        rw [show ((v : Int) + (1 + (x.text.length : Int) / 8 + (x.name.length : Int) / 8)) = (v1 : Int) by omega]
        obtain ⟨RA, hRA⟩ : ∃ RA, Dom.wtA most v1 x.atts = RA := ⟨_, rfl⟩
        have HA0 : Hid (Dom.wtA most v1 (x.atts.drop 0) = RA) := hid hRA
        have HNext : Hid ((ns.drop (k + 1)).foldl (Dom.stepN most d) (Dom.wtL most d RA x.kids) = R) := hid (by
          have h := hI.out
          rw [List.drop_eq_getElem_cons (by have := HLN.out; omega), List.foldl_cons] at h
          have hx2 : ns[k]'(by have := HLN.out; omega) = x := by
            have := List.getElem?_eq_getElem (l := ns) (i := k) (by have := HLN.out; omega)
            rw [hx] at this
            exact (Option.some.inj this).symm
          rw [hx2] at h
          rw [show Dom.stepN most d v x = Dom.wtL most d RA x.kids by unfold Dom.stepN; rw [if_pos hm, hv1, hRA]] at h
          exact h)
        clear hI hRA s1 s2 hx o1 o2
        go_wp2
        go_loopg [1, 8] an (fun g wv iv wr2 => ∃ q u : Nat, q + g = an ∧ iv = .int .i64 q ∧ wv = .int .i64 u ∧ Hid (Dom.wtA most u (x.atts.drop q) = RA) ∧ Hid (Below w1.heap.size w1 wr2))
        case atStart => exact ⟨0, v1, by omega, rfl, rfl, HA0, hid (Below.refl _ _)⟩
        case round =>
          obtain ⟨q, u, hq, rfl, rfl, hIA, hB2⟩ := hrel
          have x3 := cell_up HX1.out.c3 hB2.out
          have hal := HX1.out.atts.1
          by_cases hlq : q < an
          · have e1 : decide (q < an) = true := decide_eq_true hlq
            have hlqI : (q : Int) < (an : Int) := by omega
            have r1 : ((q : Int)).toNat = q := by omega
            have r2 : (0 : Int) ≤ (q : Int) := by omega
            by_cases hmu : u ≤ most
            · have e2 : decide ((u : Int) ≤ (most : Int)) = true := decide_eq_true (by omega)
              have e2N : decide (u ≤ most) = true := decide_eq_true hmu
              obtain ⟨y, hy⟩ : ∃ y, x.atts[q]? = some y := ⟨_, List.getElem?_eq_getElem (by omega)⟩
              obtain ⟨_, z0 | ⟨ab, ao, rfl, hau⟩⟩ := HX1.out.atts.below hB2.out
              · omega
              obtain ⟨u1, u2⟩ := hau q y hy
              obtain ⟨m1, m2⟩ := HO3.out y (List.mem_of_getElem? hy)
              obtain ⟨Y1, hY1⟩ : ∃ Y1, bs y.1 = Y1 := ⟨_, rfl⟩
              obtain ⟨Y2, hY2⟩ : ∃ Y2, bs y.2 = Y2 := ⟨_, rfl⟩
              have s1 : Y1.size = y.1.length := by rw [← hY1, size_eq]; rfl
              have s2 : Y2.size = y.2.length := by rw [← hY2, size_eq]; rfl
              rw [hY1] at u1
              rw [hY2] at u2
              have HA1 : Hid (Dom.wtA most (u + (1 + y.1.length / 8 + y.2.length / 8)) (x.atts.drop (q + 1)) = RA) := hid (by
                have h := hIA.out
                rw [List.drop_eq_getElem_cons (by omega)] at h
                have hy2 : x.atts[q]'(by omega) = y := by
                  have := List.getElem?_eq_getElem (l := x.atts) (i := q) (by omega)
                  rw [hy] at this
                  exact (Option.some.inj this).symm
                rw [hy2] at h
                unfold Dom.wtA at h
                rwa [if_pos hmu] at h)
              clear hIA hau hy hY1 hY2
              go_wp2
              go_region
              obtain ⟨u3, hu3⟩ : ∃ u3 : Nat, u + (1 + y.1.length / 8 + y.2.length / 8) = u3 := ⟨_, rfl⟩
              rw [show ((u : Int) + (1 + (y.1.length : Int) / 8 + (y.2.length : Int) / 8)) = (u3 : Int) by omega]
              rw [hu3] at HA1
              have HB3 := hid hB2.out.drew
              clear u1 u2 s1 s2 x3 hu3 m1 m2
              go_wp2
              go_roundg (an - (q + 1))
              case measure => omega
              case rel => exact ⟨q + 1, u3, by omega, by go_num, rfl, HA1, HB3⟩
            · have e2 : decide ((u : Int) ≤ (most : Int)) = false := decide_eq_false (by omega)
              have e2N : decide (u ≤ most) = false := decide_eq_false hmu
              have hRA : RA = u := by have h := hIA.out; rw [Dom.wtA_over hmu] at h; exact h.symm
              have SK := hid (HIH.out S x.kids ka kn kc u most _ (HX1.out.kids.below hB2.out) HO4.out (by have := HKN.out; omega) hmost)
              have x5 := cell_up HX1.out.c5 hB2.out
              rw [hRA] at HNext
              clear hIA hRA
              go_wp2_with fail
              refine SK.out.mono ?_
              rintro e w4 ⟨rfl, b4⟩
              have HBn := hid (HB1.out.trans ((hB2.out.trans (b4.mono hB2.out.size)).mono HB1.out.size))
              clear b4 x3 x5
              go_wp2
              go_roundg (n - (k + 1))
              case measure => omega
              case rel => exact ⟨k + 1, _, by omega, by go_num, rfl, HNext, HBn⟩
          · have e1 : decide (q < an) = false := decide_eq_false hlq
            have hlqI : ¬ (q : Int) < (an : Int) := by omega
            have hRA : RA = u := by have h := hIA.out; rw [List.drop_of_length_le (by omega)] at h; exact h.symm
            have SK := hid (HIH.out S x.kids ka kn kc u most _ (HX1.out.kids.below hB2.out) HO4.out (by have := HKN.out; omega) hmost)
            have x5 := cell_up HX1.out.c5 hB2.out
            rw [hRA] at HNext
            clear hIA hRA
            go_wp2_with fail
            refine SK.out.mono ?_
            rintro e w4 ⟨rfl, b4⟩
            have HBn := hid (HB1.out.trans ((hB2.out.trans (b4.mono hB2.out.size)).mono HB1.out.size))
            clear b4 x3 x5
            go_wp2
            go_roundg (n - (k + 1))
            case measure => omega
            case rel => exact ⟨k + 1, _, by omega, by go_num, rfl, HNext, HBn⟩
      · have d2 : decide ((v : Int) ≤ (most : Int)) = false := decide_eq_false (by omega)
        have d2N : decide (v ≤ most) = false := decide_eq_false hm
        have HN := hid hI.out
        have hRv : Hid (R = v) := hid (by rw [← hI.out]; exact Dom.step_over hm _)
        clear hI
        go_wp2
        go_ret
        exact ⟨by rw [hRv.out]; first | done | rfl, hB.out⟩
    · have d1 : decide (k < n) = false := decide_eq_false hlt
      have hltI : ¬ (k : Int) < (n : Int) := by omega
      have hRv : Hid (R = v) := hid (by
        have h := hI.out
        rw [List.drop_of_length_le (by have := HLN.out; omega)] at h
        exact h.symm)
      clear hI
      go_wp2
      go_ret
      exact ⟨by rw [hRv.out]; first | done | rfl, hB.out⟩
set_option maxHeartbeats 8000000 in
theorem weigh_zero : WeighC 0 := by
  intro S ns a n c wt most w h ho hn hmost
  obtain ⟨rfl, rfl⟩ := h
  have hR : Dom.wtL most 0 wt [] = wt := rfl
  rw [hR]
  clear ho hn hR
  go_enter Try.func26, Try.ntmps26
  go_wp2
  go_loopg [1, 7] 0 (fun g wv iv wr => iv = .int .i64 0 ∧ wv = .int .i64 wt ∧ wr = w)
  case atStart => exact ⟨rfl, rfl, rfl⟩
  case round =>
    obtain ⟨rfl, rfl, rfl⟩ := hrel
    go_wp2
    go_ret
    exact ⟨rfl, Below.refl _ _⟩
theorem weigh_any : ∀ d, WeighC d
  | 0 => weigh_zero
  | d + 1 => weigh_succ d (weigh_any d)
end Go.Proofs.Ythbklcpjbeelhaa
