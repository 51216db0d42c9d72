/- Walks over what the statements of layer 12 share: are two lists of marks alike (all fields). -/
import Derived.Test.YtmgbjkekfejnfaaMarkM
import Derived.Test.YtmgbjkekfejnfaaSameAt2
import Derived.Deep.RegionHeld3
namespace Go.Proofs.Ytmgbjkekfejnfaa
open Go.RowKit Go.Lib
set_option maxRecDepth 100000
set_option linter.unusedVariables false
theorem mk_eq {x y : Mk.M} (h1 : x.id = y.id) (h2 : x.name = y.name) (h3 : x.atts = y.atts) : x = y := by
  obtain ⟨a, b, c⟩ := x
  obtain ⟨d, e, f⟩ := y
  simp at h1 h2 h3
  rw [h1, h2, h3]
/-- Whether it is so. -/
def SameE (P : Prop) (e : Ending) : Prop := ∃ b, e = .returned (.bool b) ∧ (b = true ↔ P)
theorem same_yes {P : Prop} (h : P) : SameE P (.returned (.bool true)) := ⟨true, rfl, ⟨fun _ => h, fun _ => rfl⟩⟩
theorem same_no {P : Prop} (h : ¬ P) : SameE P (.returned (.bool false)) := ⟨false, rfl, ⟨(fun e => by cases e), fun e => absurd e h⟩⟩
set_option maxHeartbeats 32000000 in
theorem sameM_any (a1 : Option Addr) (n1 c1 : Nat) (rs1 : List MR) (xs1 : List Mk.M) (a2 : Option Addr) (n2 c2 : Nat) (rs2 : List MR) (xs2 : List Mk.M) (w : World) (h : MarksIn a1 n1 c1 rs1 xs1 w) (g : MarksIn a2 n2 c2 rs2 xs2 w) :
    Calls Try.prog 10 #[.slice a1 n1 c1, .slice a2 n2 c2] w fun e w' => SameE (xs1 = xs2) e ∧ Below w.heap.size w w' := by
  have HH := hid h
  have HG := hid g
  have f1 := h.few
  have f2 := g.few
  have hl1 := h.len
  have hl2 := g.len
  clear h g
  by_cases hn : n1 = n2
  · subst hn
    have d0 : ((n1 : Int) != (n1 : Int)) = false := by simp
    go_enter Try.func10, Try.ntmps10
    go_wp2
    clear d0
    go_loopg [5] n1 (fun g iv wr => ∃ k : Nat, k + g = n1 ∧ iv = .int .i64 k ∧ Hid (xs1.take k = xs2.take k) ∧ Below w.heap.size w wr)
    case atStart => exact ⟨0, by omega, rfl, hid rfl, Below.refl _ _⟩
    case round =>
      obtain ⟨k, hk, rfl, hI, hb⟩ := hrel
      by_cases hlt : k < n1
      · have d1 : decide (k < n1) = true := decide_eq_true hlt
        have hltI : (k : Int) < (n1 : Int) := by omega
        obtain ⟨b1, o1, r, x, rfl, hr, hx, fx, p0, p1, p2⟩ := (HH.out.below hb).get hlt
        obtain ⟨b2, o2, s, y, rfl, hs, hy, fy, q0, q1, q2⟩ := (HG.out.below hb).get hlt
        have HNE := hid fun (ne : x ≠ y) => (show ¬ xs1 = xs2 from fun e => by
          rw [e, hy] at hx
          cases hx
          exact ne rfl)
        have HNX := hid fun (e : x = y) => take_more hI.out hx (by rw [e]; exact hy)
        by_cases hi : x.id = y.id
        · by_cases hm : x.name = y.name
          · have HS := hid fun V (hV : Below wr.heap.size wr V) => sameAt2_any r.aa r.an r.ac x.atts s.aa s.an s.ac y.atts V (fx.atts.below hV) (fy.atts.below hV) fx.few fy.few
            have HSM := hid (And.intro p0 (And.intro p1 (And.intro p2 (And.intro q0 (And.intro q1 q2)))))
            rw [← hi] at q0
            rw [← hm] at q1
            have d2 : (x.id != x.id) = false := by simp
            have e0 := Below.refl wr.heap.size wr
            obtain ⟨D, hD⟩ : ∃ D, decide (x.atts = y.atts) = D := ⟨_, rfl⟩
            rw [hD] at HS
            have HD := hid hD
            have HEQ := hid (fun (e : x.atts = y.atts) => mk_eq hi hm e)
            clear hr hs hx hy fx fy hi hm hD
            generalize bs x.name = X at *
            generalize x.id = z at *
            go_wp2
            have Q0 := hid (And.intro p0 (And.intro p1 (And.intro p2 (And.intro q0 (And.intro q1 q2)))))
            clear p0 p1 p2 q0 q1 q2
            first
              | (go_region_held3 (fun V => V.cell? ⟨b1, o1 + k * 3, none⟩ = some (.int .i64 z) ∧ V.cell? ⟨b1, o1 + k * 3 + 1, none⟩ = some (.string X) ∧ V.cell? ⟨b1, o1 + k * 3 + 2, none⟩ = some (.slice r.aa r.an r.ac) ∧ V.cell? ⟨b2, o2 + k * 3, none⟩ = some (.int .i64 z) ∧ V.cell? ⟨b2, o2 + k * 3 + 1, none⟩ = some (.string X) ∧ V.cell? ⟨b2, o2 + k * 3 + 2, none⟩ = some (.slice s.aa s.an s.ac)) (first | exact QA.out | exact Q0.out)
                  (first
                    | (go_at_call 24; (with_reducible refine (HS.out _ e0.drew).mono ?_); rintro e wk ⟨rfl, bk⟩; have be := e0.drew.trans (bk.mono e0.drew.size); have BK := hid (hb.trans (be.mono hb.size)); have QA := hid (And.intro (cell_up Q0.out.1 be) (And.intro (cell_up Q0.out.2.1 be) (And.intro (cell_up Q0.out.2.2.1 be) (And.intro (cell_up Q0.out.2.2.2.1 be) (And.intro (cell_up Q0.out.2.2.2.2.1 be) (cell_up Q0.out.2.2.2.2.2 be)))))); clear bk be)))
              | fail
            all_goals
              clear HS e0 Q0
              cases D with
              | true =>
                have HN := hid (HNX.out (HEQ.out (of_decide_eq_true HD.out)))
                go_wp2
                go_roundg (n1 - (k + 1))
                case measure => omega
                case rel => exact ⟨k + 1, by omega, by go_num, HN, BK.out⟩
              | false =>
                have HN := hid (HNE.out (fun e => by rw [e] at HD; simp at HD; exact absurd HD.out (by simp)))
                go_wp2
                go_ret
                exact ⟨same_no HN.out, BK.out⟩
          · have HN := hid (HNE.out (fun e => hm (by rw [e])))
            have t0 : ¬ (bs x.name).toList = (bs y.name).toList := fun e => hm (bs_inj e)
            rw [← hi] at q0
            have d2 : (x.id != x.id) = false := by simp
            clear hr hs hx hy fx fy hi hm HNE HNX hI
            generalize bs x.name = X at *
            generalize bs y.name = Y at *
            generalize x.id = z at *
            go_wp2
            go_quiet (fail)
            go_wp2
            go_ret
            exact ⟨same_no HN.out, bel_drewN hb _⟩
        · have HN := hid (HNE.out (fun e => hi (by rw [e])))
          have d2 : (x.id != y.id) = true := by simp [hi]
          clear hr hs hx hy fx fy hi HNE HNX hI
          generalize x.id = z at *
          generalize y.id = z2 at *
          go_wp2
          go_quiet (fail)
          go_wp2
          go_ret
          exact ⟨same_no HN.out, bel_drewN hb _⟩
      · have d1 : decide (k < n1) = false := decide_eq_false hlt
        have hltI : ¬ (k : Int) < (n1 : Int) := by omega
        have HN := hid (take_all hI.out hl1 hl2 hlt)
        clear hI
        go_wp2
        go_ret
        exact ⟨same_yes HN.out, hb⟩
  · have d0 : ((n1 : Int) != (n2 : Int)) = true := by simp; omega
    have d0' : ((n1 : Int) == (n2 : Int)) = false := by simp; omega
    have HN := hid (show ¬ xs1 = xs2 from fun e => hn (by rw [← hl1, ← hl2, e]))
    go_enter Try.func10, Try.ntmps10
    go_wp2
    go_ret
    exact ⟨same_no HN.out, Below.refl _ _⟩
end Go.Proofs.Ytmgbjkekfejnfaa
