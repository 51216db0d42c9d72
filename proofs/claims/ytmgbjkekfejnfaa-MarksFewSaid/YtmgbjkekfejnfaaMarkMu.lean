/- Walks over the statements of layer 12: whether there is more than is looked at. (Sums may wrap: nothing is known of the answer but that few marks are behind a no.) -/
import Derived.Test.YtmgbjkekfejnfaaMarkArg
import Derived.Deep.LoopGhost
import Derived.IntWalk
import Derived.BigCall
namespace Go.Proofs.Ytmgbjkekfejnfaa
open Go.RowKit Go.Lib
set_option maxRecDepth 100000
set_option linter.unusedVariables false
def MuchM (n : Nat) (e : Ending) : Prop := ∃ b, e = .returned (.bool b) ∧ (b = false → n ≤ 1500)
set_option maxHeartbeats 16000000 in
theorem muchM_any (a : Option Addr) (n c : Nat) (rs : List MR) (xs : List Mk.M) (w : World) (h : RowM w a n rs) (g : CamesM w rs xs) (h1 : n ≤ c) (h2 : c ≤ 9223372036854775807) :
    Calls Try.prog 7 #[.slice a n c] w fun e w' => MuchM n e ∧ Below w.heap.size w w' := by
  have HH := hid h
  have HG := hid g
  clear h g
  go_enter Try.func7, Try.ntmps7
  go_wp2
  go_loopg [3, 4] n (fun g sv iv wr => ∃ (k : Nat) (z : Int), k + g = n ∧ iv = .int .i64 k ∧ sv = .int .i64 z ∧ Hid (1500 < n → z = n) ∧ Below w.heap.size w wr)
  case atStart => exact ⟨0, n, by omega, rfl, rfl, hid fun _ => rfl, Below.refl _ _⟩
  case round =>
    obtain ⟨k, z, hk, rfl, rfl, hZ, hb⟩ := hrel
    by_cases hz : z ≤ 1500
    · have d2 : decide (z ≤ 1500) = true := decide_eq_true hz
      have d3 : decide ((1500 : Int) < z) = false := decide_eq_false (by omega)
      have d3' : ¬ (1500 : Int) < z := by omega
      have HN15 := hid (show n ≤ 1500 by
        rcases Nat.lt_or_ge 1500 n with h | h
        · have := hZ.out h
          omega
        · exact h)
      by_cases hlt : k < n
      · have d1 : decide (k < n) = true := decide_eq_true hlt
        have hltI : (k : Int) < (n : Int) := by omega
        obtain ⟨hrl, z0 | ⟨blk, off, rfl, hat⟩⟩ := HH.out.below hb
        · omega
        obtain ⟨r, hr⟩ : ∃ r, rs[k]? = some r := ⟨_, List.getElem?_eq_getElem (by omega)⟩
        obtain ⟨x, hx⟩ : ∃ x, xs[k]? = some x := ⟨_, List.getElem?_eq_getElem (by have := HG.out.1; omega)⟩
        obtain ⟨c0, c1, c2⟩ := hat k r hr
        have hC := HG.out.2 k r x hr hx
        have HCA := hid fun V (hV : Below w.heap.size w V) => hC.atts.below hV
        have HC2 := hid fun V (hV : Below w.heap.size w V) => ((HH.out.below hV).at_ hr).2.2
        have hcap := hC.cap
        have hcap2 := hC.cap2
        have hsz : (bs r.name).size ≤ 9223372036854775807 := by rw [hC.name]; exact hC.len
        have hlens := hC.lens
        clear hat c0 hr hx hC d3 d3'
        go_wp2
        go_quiet (fail)
        go_wp2
        have hb5 : Below w.heap.size w (wr.drewN nq) := bel_drewN hb _
        clear c1 c2 hb
        obtain ⟨an, han⟩ : ∃ an, r.an = an := ⟨_, rfl⟩
        obtain ⟨ac, hac⟩ : ∃ ac, r.ac = ac := ⟨_, rfl⟩
        obtain ⟨aa, haa⟩ : ∃ aa, r.aa = aa := ⟨_, rfl⟩
        obtain ⟨nm, hnm⟩ : ∃ nm, bs r.name = nm := ⟨_, rfl⟩
        rw [han, hac] at hcap
        rw [hac] at hcap2
        rw [han, hac, haa] at HC2
        rw [han, haa] at HCA
        try rw [han]
        try rw [hac]
        try rw [haa]
        try rw [hnm]
        have HLN := hid hlens
        clear han hac haa hnm hlens hsz
        go_loopg [3, 5] an (fun g sv iv wr => ∃ (j : Nat) (y : Int), j + g = an ∧ iv = .int .i64 j ∧ sv = .int .i64 y ∧ Below w.heap.size w wr)
        case atStart => exact ⟨0, _, by omega, rfl, rfl, hb5⟩
        case round =>
          clear hb5
          obtain ⟨j, y, hj, rfl, rfl, hb⟩ := hrel
          have q2 := HC2.out wr hb
          by_cases hlt2 : j < an
          · have d5 : decide (j < an) = true := decide_eq_true hlt2
            have hltI2 : (j : Int) < (an : Int) := by omega
            by_cases hy : y ≤ 1500
            · have d6 : decide (y ≤ 1500) = true := decide_eq_true hy
              have hA := HCA.out wr hb
              obtain ⟨hal, z0 | ⟨ab, ao, rfl, hau⟩⟩ := hA
              · omega
              obtain ⟨p, hp⟩ : ∃ p, x.atts[j]? = some p := ⟨_, List.getElem?_eq_getElem (by omega)⟩
              obtain ⟨e0, e1⟩ := hau j p hp
              have hps := HLN.out p (List.mem_of_getElem? hp)
              have s1 : (bs p.1).size ≤ 9223372036854775807 := hps.1
              have s2 : (bs p.2).size ≤ 9223372036854775807 := hps.2
              generalize bs p.1 = Y1 at *
              generalize bs p.2 = Y2 at *
              clear hau hal hp hps
              go_wp2
              go_quiet (fail)
              go_wp2
              go_roundg (an - (j + 1))
              case measure => omega
              case rel => exact ⟨j + 1, _, by omega, by go_num, rfl, bel_drewN hb _⟩
            · have d6 : decide (y ≤ 1500) = false := decide_eq_false hy
              go_wp2
              go_roundg (n - (k + 1))
              case measure => omega
              case rel => exact ⟨k + 1, y, by omega, by go_num, rfl, hid (fun h => by have := HN15.out; omega), hb⟩
          · have d5 : decide (j < an) = false := decide_eq_false hlt2
            have hltI2 : ¬ (j : Int) < (an : Int) := by omega
            go_wp2
            go_roundg (n - (k + 1))
            case measure => omega
            case rel => exact ⟨k + 1, y, by omega, by go_num, rfl, hid (fun h => by have := HN15.out; omega), hb⟩
      · have d1 : decide (k < n) = false := decide_eq_false hlt
        have hltI : ¬ (k : Int) < (n : Int) := by omega
        go_wp2
        go_ret
        exact ⟨⟨false, rfl, fun _ => HN15.out⟩, hb⟩
    · have d2 : decide (z ≤ 1500) = false := decide_eq_false hz
      have d3 : decide ((1500 : Int) < z) = true := decide_eq_true (by omega)
      have d3' : (1500 : Int) < z := by omega
      by_cases hlt : k < n
      · have d1 : decide (k < n) = true := decide_eq_true hlt
        have hltI : (k : Int) < (n : Int) := by omega
        go_wp2
        go_ret
        exact ⟨⟨true, rfl, fun e => by cases e⟩, hb⟩
      · have d1 : decide (k < n) = false := decide_eq_false hlt
        have hltI : ¬ (k : Int) < (n : Int) := by omega
        go_wp2
        go_ret
        exact ⟨⟨true, rfl, fun e => by cases e⟩, hb⟩
end Go.Proofs.Ytmgbjkekfejnfaa
