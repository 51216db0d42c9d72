/- Walks over the statements of layer 12: whether there is more than is looked at, where no sum wraps: behind a no there are few marks with few attributes. -/
import Derived.Test.YtmgbjkekfejnfaaMarkMu
namespace Go.Proofs.Ytmgbjkekfejnfaa
open Go.RowKit Go.Lib
set_option maxRecDepth 100000
set_option linter.unusedVariables false
/-- Its texts and lists are such as lie in memory. -/
def SizedM (r : MR) (x : Mk.M) : Prop := r.an ≤ 17592186044416 ∧ x.name.length ≤ 281474976710656 ∧ ∀ p ∈ x.atts, p.1.length ≤ 281474976710656 ∧ p.2.length ≤ 281474976710656
def MuchW (n : Nat) (rs : List MR) (e : Ending) : Prop := ∃ b, e = .returned (.bool b) ∧ (b = false → n ≤ 1500 ∧ ∀ r ∈ rs, r.an ≤ 1500)
set_option maxHeartbeats 16000000 in
theorem muchW_any (a : Option Addr) (n c : Nat) (rs : List MR) (xs : List Mk.M) (w : World) (h : RowM w a n rs) (g : CamesM w rs xs) (h1 : n ≤ c) (h2 : c ≤ 9223372036854775807) (hsm : ∀ (i : Nat) r x, rs[i]? = some r → xs[i]? = some x → SizedM r x) (hn47 : n ≤ 281474976710656) :
    Calls Try.prog 7 #[.slice a n c] w fun e w' => MuchW n rs e ∧ Below w.heap.size w w' := by
  have HH := hid h
  have HG := hid g
  have HSM := hid hsm
  clear h g hsm
  go_enter Try.func7, Try.ntmps7
  go_wp2
  go_loopg [3, 4] n (fun g sv iv wr => ∃ (k z : Nat), k + g = n ∧ iv = .int .i64 k ∧ sv = .int .i64 z ∧ z ≤ 1152921504606846976 ∧ Hid (n ≤ z ∧ (z ≤ 1500 → ∀ (i : Nat) r, i < k → rs[i]? = some r → r.an ≤ 1500)) ∧ Below w.heap.size w wr)
  case atStart => exact ⟨0, n, by omega, rfl, rfl, by omega, hid ⟨Nat.le_refl _, fun _ i r hi => by omega⟩, Below.refl _ _⟩
  case round =>
    obtain ⟨k, z, hk, rfl, rfl, hzb, hZ, hb⟩ := hrel
    by_cases hz : z ≤ 1500
    · have d2 : decide ((z : Int) ≤ 1500) = true := decide_eq_true (by omega)
      have d2' : (z : Int) ≤ 1500 := by omega
      have d3 : decide ((1500 : Int) < (z : Int)) = false := decide_eq_false (by omega)
      have d3' : ¬ (1500 : Int) < (z : Int) := by omega
      have HN15 := hid (show n ≤ 1500 by have := hZ.out.1; omega)
      by_cases hlt : k < n
      · have d1 : decide (k < n) = true := decide_eq_true hlt
        have hltI : (k : Int) < (n : Int) := by omega
        obtain ⟨hrl, z0 | ⟨blk, off, rfl, hat⟩⟩ := HH.out.below hb
        · omega
        obtain ⟨r, hr⟩ : ∃ r, rs[k]? = some r := ⟨_, List.getElem?_eq_getElem (by omega)⟩
        obtain ⟨x, hx⟩ : ∃ x, xs[k]? = some x := ⟨_, List.getElem?_eq_getElem (by have := HG.out.1; omega)⟩
        obtain ⟨c0, c1, c2⟩ := hat k r hr
        have hC := HG.out.2 k r x hr hx
        have HCA := hid fun V (hV : Below w.heap.size w V) => hC.atts.below hV
        have HC2 := hid fun V (hV : Below w.heap.size w V) => ((HH.out.below hV).at_ hr).2.2
        have hcap := hC.cap
        have hcap2 := hC.cap2
        have hSZ := HSM.out k r x hr hx
        have hsz : (bs r.name).size ≤ 281474976710656 := by rw [hC.name]; exact hSZ.2.1
        have han47 : r.an ≤ 17592186044416 := hSZ.1
        have HNX := hid (fun (y : Nat) (hy : r.an ≤ y) (hy2 : y ≤ 1500) => (show ∀ (i : Nat) r', i < k + 1 → rs[i]? = some r' → r'.an ≤ 1500 from fun i r' hi hr' => by
          by_cases e : i = k
          · subst e
            rw [hr] at hr'
            cases hr'
            omega
          · exact hZ.out.2 hz i r' (by omega) hr'))
        have hlens := hSZ.2.2
        clear hat c0 hr hx hC d3 d3' hSZ
        go_wp2
        go_quiet (fail)
        go_wp2
        have hb5 : Below w.heap.size w (wr.drewN nq) := bel_drewN hb _
        clear c1 c2 hb
        obtain ⟨an, han⟩ : ∃ an, r.an = an := ⟨_, rfl⟩
        obtain ⟨ac, hac⟩ : ∃ ac, r.ac = ac := ⟨_, rfl⟩
        obtain ⟨aa, haa⟩ : ∃ aa, r.aa = aa := ⟨_, rfl⟩
        obtain ⟨nm, hnm⟩ : ∃ nm, bs r.name = nm := ⟨_, rfl⟩
        rw [han] at han47 HNX
        rw [han, hac] at hcap
        rw [hac] at hcap2
        rw [han, hac, haa] at HC2
        rw [han, haa] at HCA
        try rw [han]
        try rw [hac]
        try rw [haa]
        try rw [hnm]
        have HLN := hid hlens
        rw [hnm] at hsz
        clear han hac haa hnm hlens
        have hb5z : z + (nm.size / 16 + an) ≤ 70368744177664 := by omega
        go_loopg [3, 5] an (fun g sv iv wr => ∃ (j y : Nat), j + g = an ∧ iv = .int .i64 j ∧ sv = .int .i64 y ∧ y ≤ 70368744177664 ∧ Hid (n ≤ y ∧ an ≤ y) ∧ Below w.heap.size w wr)
        case atStart => exact ⟨0, z + (nm.size / 16 + an), by omega, rfl, by go_num, by omega, hid ⟨by have := hZ.out.1; omega, by omega⟩, hb5⟩
        case round =>
          clear hb5
          obtain ⟨j, y, hj, rfl, rfl, hyb, hY, hb⟩ := hrel
          have q2 := HC2.out wr hb
          by_cases hlt2 : j < an
          · have d5 : decide (j < an) = true := decide_eq_true hlt2
            have hltI2 : (j : Int) < (an : Int) := by omega
            by_cases hy : y ≤ 1500
            · have d6 : decide ((y : Int) ≤ 1500) = true := decide_eq_true (by omega)
              have d6' : (y : Int) ≤ 1500 := by omega
              have hA := HCA.out wr hb
              obtain ⟨hal, z0 | ⟨ab, ao, rfl, hau⟩⟩ := hA
              · omega
              obtain ⟨p, hp⟩ : ∃ p, x.atts[j]? = some p := ⟨_, List.getElem?_eq_getElem (by omega)⟩
              obtain ⟨e0, e1⟩ := hau j p hp
              have hps := HLN.out p (List.mem_of_getElem? hp)
              have s1 : (bs p.1).size ≤ 281474976710656 := hps.1
              have s2 : (bs p.2).size ≤ 281474976710656 := hps.2
              generalize bs p.1 = Y1 at *
              generalize bs p.2 = Y2 at *
              clear hau hal hp hps
              go_wp2
              go_quiet (fail)
              go_wp2
              go_roundg (an - (j + 1))
              case measure => omega
              case rel => exact ⟨j + 1, y + (Y1.size / 16 + Y2.size / 16), by omega, by go_num, by go_num, by omega, hid ⟨by have := hY.out.1; omega, by have := hY.out.2; omega⟩, bel_drewN hb _⟩
            · have d6 : decide ((y : Int) ≤ 1500) = false := decide_eq_false (by omega)
              have d6' : ¬ (y : Int) ≤ 1500 := by omega
              go_wp2
              go_roundg (n - (k + 1))
              case measure => omega
              case rel => exact ⟨k + 1, y, by omega, by go_num, rfl, by omega, hid ⟨hY.out.1, fun hy2 => HNX.out y hY.out.2 hy2⟩, hb⟩
          · have d5 : decide (j < an) = false := decide_eq_false hlt2
            have hltI2 : ¬ (j : Int) < (an : Int) := by omega
            go_wp2
            go_roundg (n - (k + 1))
            case measure => omega
            case rel => exact ⟨k + 1, y, by omega, by go_num, rfl, by omega, hid ⟨hY.out.1, fun hy2 => HNX.out y hY.out.2 hy2⟩, hb⟩
      · have d1 : decide (k < n) = false := decide_eq_false hlt
        have hltI : ¬ (k : Int) < (n : Int) := by omega
        go_wp2
        go_ret
        exact ⟨⟨false, rfl, fun _ => ⟨HN15.out, fun r hr => by
          obtain ⟨i, hi⟩ := List.getElem?_of_mem hr
          exact hZ.out.2 hz i r (by have := HH.out.1; have := (List.getElem?_eq_some_iff.1 hi).1; omega) hi⟩⟩, hb⟩
    · have d2 : decide ((z : Int) ≤ 1500) = false := decide_eq_false (by omega)
      have d2' : ¬ (z : Int) ≤ 1500 := by omega
      have d3 : decide ((1500 : Int) < (z : Int)) = true := decide_eq_true (by omega)
      have d3' : (1500 : Int) < (z : Int) := by omega
      by_cases hlt : k < n
      · have d1 : decide (k < n) = true := decide_eq_true hlt
        have hltI : (k : Int) < (n : Int) := by omega
        go_wp2
        go_ret
        exact ⟨⟨true, rfl, fun e => by cases e⟩, hb⟩
      · have d1 : decide (k < n) = false := decide_eq_false hlt
        have hltI : ¬ (k : Int) < (n : Int) := by omega
        go_wp2
        go_ret
        exact ⟨⟨true, rfl, fun e => by cases e⟩, hb⟩
end Go.Proofs.Ytmgbjkekfejnfaa
