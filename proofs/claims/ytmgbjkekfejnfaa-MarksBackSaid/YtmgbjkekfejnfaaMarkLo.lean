/- Walks over the reference of layer 12: Clear, Lost. -/
import Derived.Test.YtmgbjkekfejnfaaMarkPu
import Derived.Test.YtmgbjkekfejnfaaElem
namespace Go.Proofs.Ytmgbjkekfejnfaa
open Go.RowKit Go.Lib
set_option maxRecDepth 100000
set_option linter.unusedVariables false
theorem RowM.take {w : World} {a : Option Addr} {n : Nat} {rs : List MR} (h : RowM w a n rs) {m : Nat} (hm : m ≤ n) : RowM w a m (rs.take m) := by
  refine ⟨by rw [List.length_take, h.1]; omega, ?_⟩
  by_cases h0 : m = 0
  · exact .inl h0
  · refine h.2.elim (fun e => by omega) fun ⟨b, off, e, hat⟩ => .inr ⟨b, off, e, fun i r hi => ?_⟩
    have hlt : i < m := by
      have := (List.getElem?_eq_some_iff.1 hi).1
      rw [List.length_take] at this
      omega
    rw [List.getElem?_take_of_lt hlt] at hi
    exact hat i r hi
set_option maxHeartbeats 4000000 in
theorem rclear_any (a : Option Addr) (n c : Nat) (rs : List MR) (xs : List Mk.M) (w : World) (h : MarksIn a n c rs xs w) :
    Calls Try.prog 14 #[.slice a n c] w fun e w' => NewM w w' e (Mk.clearL xs) ∧ Below w.heap.size w w' := by
  have HB := hid (rbehind_any a n c rs xs w h)
  have HM := hid h
  have hln := h.len
  have hf := h.few
  have hc1 := h.cap
  have hc2 := h.cap2
  have hbn := Mk.behind_le xs n
  have HC := hid (show Mk.clearL xs = xs.take (Mk.behind xs n - 1) by unfold Mk.clearL; rw [hln])
  obtain ⟨B, hB⟩ : ∃ B, Mk.behind xs n = B := ⟨_, rfl⟩
  rw [hB] at HB HC hbn
  clear h hB
  by_cases h0 : B = 0
  · subst h0
    have HN := hid (show NewM w w (.returned (.slice none 0 0)) (Mk.clearL xs) by
      rw [HC.out]
      exact new_end (Nat.le_refl _) (World.ownsRow_nil w w.heap.size _ 3) (AttsM.nil w) (by simp))
    go_enter Try.func14, Try.ntmps14
    go_wp2_with fail
    refine HB.out.mono ?_
    rintro e w2 ⟨rfl, rfl⟩
    go_wp2
    go_ret
    exact ⟨HN.out, Below.refl _ _⟩
  · have d0 : ((B : Int) == 0) = false := by simp; omega
    obtain ⟨K, rfl⟩ : ∃ K, B = K + 1 := ⟨B - 1, by omega⟩
    have e1 : ((K + 1 : Nat) : Int) - 1 = (K : Int) := by omega
    obtain ⟨hl, h9 | ⟨blk, off, rfl, hat⟩⟩ := HM.out.row
    · omega
    have HR := hid (HM.out.row.take (show K ≤ n by omega))
    have hK1 : (K : Int) ≤ (c : Int) := by omega
    have hK0 : (0 : Int) ≤ (K : Int) := by omega
    have hKc : K ≤ c := by omega
    clear hat hl
    go_enter Try.func14, Try.ntmps14
    go_wp2_with fail
    refine HB.out.mono ?_
    rintro e w2 ⟨rfl, rfl⟩
    clear HB
    go_wp2_with (at_builtin; refine append_ms rfl _ _ rfl w.heap.size _ [] rfl (World.ownsRow_nil _ _ _ _) ⟨blk, off, none⟩ K c (rs.take K) rfl HR.out hKc (by simp; omega) (Nat.le_refl _) ?_)
    intro v' w' o1 g1
    have BB := (Below.refl w.heap.size w).grown g1 (Nat.le_refl _) (own_ge (World.ownsRow_nil w w.heap.size 25 3))
    have hlt : (rs.take K).length = K := HR.out.1
    have HN := hid (show NewM w w' (.returned v') (Mk.clearL xs) by
      rw [HC.out]
      have := new_end (w := w) (ys := xs.take K) (Nat.le_refl _) (row_lenM (l := rs.take K) (by first | rfl | simpa using hlt) (by simpa using o1)) ((HM.out.atts.take K).below BB) (by omega)
      exact this)
    have HBB := hid BB
    clear o1 g1 BB HR
    go_wp2
    go_ret
    exact ⟨HN.out, HBB.out⟩
theorem ids_take {ids : List Int} {j : Nat} {q z : Int} (h : ids[j]? = some q) : decide (z ∈ ids.take (j + 1)) = (decide (z ∈ ids.take j) || decide (q = z)) := by
  rw [List.take_add_one, h]
  simp [eq_comm]
set_option maxHeartbeats 8000000 in
theorem rlost_any (a : Option Addr) (n c : Nat) (rs : List MR) (xs : List Mk.M) (oa : Option Addr) (on oc : Nat) (l : List Opn.E) (w : World) (h : MarksIn a n c rs xs w) (g : IsE w oa on l) (ho : on ≤ 4294967296) :
    Calls Try.prog 20 #[.slice a n c, .slice oa on oc] w fun e w' => e = .returned (.int .i64 (Mk.lostN xs (l.map (·.id)) n)) ∧ Below w.heap.size w w' := by
  have HH := hid h
  have HG := hid g
  have hf := h.few
  have hll := g.1
  obtain ⟨ids, hids⟩ : ∃ ids, l.map (·.id) = ids := ⟨_, rfl⟩
  rw [hids]
  have HID := hid hids
  have hil : ids.length = on := by rw [← hids, List.length_map]; exact hll
  obtain ⟨R, hR⟩ : ∃ R, Mk.lostN xs ids n = R := ⟨_, rfl⟩
  rw [hR]
  have HR := hid hR
  clear h hR g hids
  go_enter Try.func20, Try.ntmps20
  go_wp2
  go_loopg [5] n (fun g iv wr => ∃ k : Nat, k = g ∧ k ≤ n ∧ iv = .int .i64 ((k : Int) - 1) ∧ Hid (Mk.lostN xs ids k = R) ∧ Below w.heap.size w wr)
  case atStart => exact ⟨n, rfl, Nat.le_refl _, by go_num, HR, Below.refl _ _⟩
  case round =>
    obtain ⟨kk, hk, hg, rfl, hI, hb⟩ := hrel
    by_cases hlt : kk = 0
    · subst hlt
      have HR2 := hid (show 0 = R from hI.out)
      clear hI
      go_wp2
      go_ret
      exact ⟨by rw [← HR2.out]; rfl, hb⟩
    · obtain ⟨k, rfl⟩ : ∃ k, kk = k + 1 := ⟨kk - 1, by omega⟩
      have d0 : decide ((0 : Int) ≤ (k : Int)) = true := decide_eq_true (by omega)
      obtain ⟨blk, off, r, x, rfl, hr, hx, f, c0, c1, c2⟩ := (HH.out.below hb).get (show k < n by omega)
      have kk1 : ((k + 1 : Nat) : Int) - 1 = (k : Int) := by omega
      rw [kk1]
      have hkl : (k : Int) < (n : Int) := by omega
      have hkl2 : k < n := by omega
      rw [Mk.lostN_step hx] at hI
      have HX := hid fun V (hV : Below w.heap.size w V) => (show V.cell? ⟨blk, off + k * 3, none⟩ = some (.int .i64 x.id) by
        obtain ⟨b2, o2, r2, x2, e2, _, hx2, _, q0, _⟩ := (HH.out.below hV).get (show k < n by omega)
        cases e2
        rw [hx] at hx2
        cases hx2
        exact q0)
      clear f hr c1 c2
      generalize x.id = z at *
      clear hx
      go_wp2
      clear c0
      go_loopg [6, 7] on (fun g sv iv wr => ∃ j : Nat, j + g = on ∧ iv = .int .i64 j ∧ sv = .bool (decide (z < 0) || decide (z ∈ ids.take j)) ∧ Below w.heap.size w wr)
      case atStart => exact ⟨0, by omega, rfl, by simp, hb⟩
      case round =>
        clear hb
        obtain ⟨j, hj, rfl, rfl, hb⟩ := hrel
        by_cases hlt2 : j < on
        · have d3 : decide (j < on) = true := decide_eq_true hlt2
          have hltI2 : (j : Int) < (on : Int) := by omega
          obtain ⟨_, x0 | ⟨ob, oo, rfl, hat⟩⟩ := HG.out.below hb
          · omega
          obtain ⟨e, he⟩ : ∃ e, l[j]? = some e := ⟨_, List.getElem?_eq_getElem (by omega)⟩
          obtain ⟨e0, _, _, _⟩ := hat j e he
          have q0 := HX.out wr hb
          have hq : ids[j]? = some e.id := by rw [← HID.out, List.getElem?_map, he]; rfl
          have HS := hid (ids_take (z := z) hq)
          generalize e.id = q at *
          clear hat he hq
          obtain ⟨B, hBB⟩ : ∃ B, (decide (z < 0) || decide (z ∈ ids.take j)) = B := ⟨_, rfl⟩
          rw [hBB]
          have HBB := hid hBB
          clear hBB
          cases B with
          | true =>
            have HN := hid (show (decide (z < 0) || decide (z ∈ ids.take (j + 1))) = true by rw [HS.out, ← Bool.or_assoc, HBB.out]; rfl)
            clear HS HBB e0 q0
            go_wp2
            go_region
            go_wp2
            go_roundg (on - (j + 1))
            case measure => omega
            case rel => exact ⟨j + 1, by omega, by go_num, by rw [HN.out], bel_drewN hb 1⟩
          | false =>
            by_cases hqz : q = z
            · have d5 : (q == z) = true := by simp [hqz]
              have HN := hid (show (decide (z < 0) || decide (z ∈ ids.take (j + 1))) = true by rw [HS.out, ← Bool.or_assoc, HBB.out, decide_eq_true hqz]; rfl)
              clear HS HBB hqz
              go_wp2
              go_region
              go_wp2
              go_roundg (on - (j + 1))
              case measure => omega
              case rel => exact ⟨j + 1, by omega, by go_num, by rw [HN.out], bel_drewN hb 1⟩
            · have d5 : (q == z) = false := by simp [hqz]
              have HN := hid (show (decide (z < 0) || decide (z ∈ ids.take (j + 1))) = false by rw [HS.out, ← Bool.or_assoc, HBB.out, decide_eq_false hqz]; rfl)
              clear HS HBB hqz
              go_wp2
              go_region
              go_wp2
              go_roundg (on - (j + 1))
              case measure => omega
              case rel => exact ⟨j + 1, by omega, by go_num, by rw [HN.out], bel_drewN hb 1⟩
        · have d3 : decide (j < on) = false := decide_eq_false hlt2
          have hltI2 : ¬ (j : Int) < (on : Int) := by omega
          rw [List.take_of_length_le (show ids.length ≤ j by omega)]
          obtain ⟨B, hBB⟩ : ∃ B, (decide (z < 0) || decide (z ∈ ids)) = B := ⟨_, rfl⟩
          rw [hBB]
          have HBB := hid hBB
          clear hBB
          cases B with
          | true =>
            have HR2 := hid (show k + 1 = R by
              rw [← hI.out, if_pos]
              have := HBB.out
              simpa using this)
            clear hI HBB
            go_wp2
            go_ret
            exact ⟨by rw [← HR2.out]; go_num, hb⟩
          | false =>
            have HN := hid (show Mk.lostN xs ids k = R by
              rw [← hI.out, if_neg]
              have := HBB.out
              simpa using this)
            clear hI HBB
            go_wp2
            go_roundg k
            case measure => omega
            case rel => exact ⟨k, rfl, by omega, by go_num, HN, hb⟩
end Go.Proofs.Ytmgbjkekfejnfaa
