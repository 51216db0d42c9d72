/- Walks over the reference of layer 12: Push. Written by tools/gen_markpu.py. -/
import Derived.Test.YtmgbjkekfejnfaaMarkAl
namespace Go.Proofs.Ytmgbjkekfejnfaa
open Go.RowKit Go.Lib
set_option maxRecDepth 100000
set_option linter.unusedVariables false
/-- A list of marks that the call has made: new memory, that may be written. -/
def NewM (w w' : World) (e : Ending) (ys : List Mk.M) : Prop := ∃ a c rs, e = .returned (.slice a ys.length c) ∧ MarksIn a ys.length c rs ys w' ∧ NewB w' w.heap.size 25 a ys.length ∧ (a = none → c = 0)
/-- What Push counts. -/
def cntM (xs : List Mk.M) (x : Mk.M) (B k : Nat) : Nat × Int := if x.id < 0 then (0, -1) else Mk.cntK xs x B k
theorem keepK_len {α : Type} (l : List α) (s : Int) : ∀ k, (Mk.keepK l s k).length ≤ k
  | 0 => Nat.le_refl _
  | k + 1 => by
    cases hx : l[k]? with
    | none =>
      conv => arg 1; unfold Mk.keepK
      rw [hx]
      exact Nat.le_succ_of_le (keepK_len l s k)
    | some x =>
      rw [Mk.keepK_step hx]
      split
      · exact Nat.le_succ_of_le (keepK_len l s k)
      · rw [List.length_append]
        exact Nat.succ_le_succ (keepK_len l s k)
theorem skip_cnt {xs : List Mk.M} {x : Mk.M} {n : Nat} (hn : xs.length = n) : Mk.skipI xs x = if (cntM xs x (Mk.behind xs n) n).1 < 3 then -1 else (cntM xs x (Mk.behind xs n) n).2 := by
  subst hn
  unfold Mk.skipI cntM
  by_cases h : x.id < 0
  · rw [if_pos h, if_pos h]; rfl
  · rw [if_neg h, if_neg h]
theorem row_lenM {w : World} {base : Nat} {v : Value} {l : List MR} {n : Nat} (hn : l.length = n) (h : w.ownsRow base 25 3 v n (mL l)) : w.ownsRow base 25 3 v l.length (mL l) := by rw [hn]; exact h
theorem new_end {w w' : World} {base : Nat} {v : Value} {rs : List MR} {ys : List Mk.M} (hb : w.heap.size ≤ base) (ho : w'.ownsRow base 25 3 v rs.length (mL rs)) (ha : AttsM w' rs ys) (hl : rs.length ≤ 4294967296) : NewM w w' (.returned v) ys := by
  obtain ⟨a, c, rfl, hr, h1, h2, h3, h4⟩ := own_rowM ho
  have e := ha.1
  rw [e] at hr h1 h3 ⊢
  refine ⟨a, c, rs, rfl, ⟨hr, ha, by omega, h1, by unfold maxLen at h2; omega⟩, h3.imp id (fun ⟨b, o, cs, q1, q2, q3⟩ => ⟨b, o, cs, q1, q2, by omega⟩), h4⟩
set_option maxHeartbeats 32000000 in
theorem rpush_any (a : Option Addr) (n c : Nat) (rs : List MR) (xs : List Mk.M) (r : MR) (x : Mk.M) (w : World) (h : MarksIn a n c rs xs w) (g : FitM w r x) (hn : n ≤ 4000000) :
    Calls Try.prog 11 #[.slice a n c, .agg #[.int .i64 r.id, .string (bs r.name), .slice r.aa r.an r.ac]] w fun e w' => NewM w w' e (Mk.pushL xs x) ∧ Below w.heap.size w w' := by
  obtain ⟨W, hW⟩ : ∃ W, w.alloc (.cells #[.int .i64 r.id, .string (bs r.name), .slice r.aa r.an r.ac] 25) = W := ⟨_, rfl⟩
  have bW : Below w.heap.size w W := by rw [← hW]; exact (Below.refl _ w).alloc (Nat.le_refl _) _
  have B0 : BlkW W w.heap.size #[.int .i64 r.id, .string (bs r.name), .slice r.aa r.an r.ac] 25 := by rw [← hW]; exact BlkW.new w _ _
  have hM := h.below bW
  have HB := hid (rbehind_any a n c rs xs W hM)
  have HM := hid hM
  have HF := hid (g.below bW)
  have hln := h.len
  have hB := Mk.behind_le xs n
  obtain ⟨B, eB⟩ : ∃ B, Mk.behind xs n = B := ⟨_, rfl⟩
  have HSK := hid (skip_cnt (x := x) hln)
  rw [eB] at HSK hB HB
  have q0 : W.cell? ⟨w.heap.size, 0, none⟩ = some (.int .i64 r.id) := B0.cell 0
  have q1 : W.cell? ⟨w.heap.size, 1, none⟩ = some (.string (bs r.name)) := B0.cell 1
  have q2 : W.cell? ⟨w.heap.size, 2, none⟩ = some (.slice r.aa r.an r.ac) := B0.cell 2
  have gid := g.id
  have HQ := hid fun V (hV : Below W.heap.size W V) => And.intro (cell_up q0 hV) (And.intro (cell_up q1 hV) (cell_up q2 hV))
  have HAL := hid fun V (hV : Below W.heap.size W V) (s : MR) (y : Mk.M) (f : FitM V s y) => ralike_any r s x y V ((g.below bW).below hV) f
  have Hb := hid bW
  have HW := hid hW
  have hbs := bW.size
  have HGid := hid gid
  clear h g hM B0 hW q0 q1 q2 bW gid
  go_enter Try.func11, Try.ntmps11
  go_wp2_with fail
  rw [HW.out]
  refine HB.out.mono ?_
  rintro e w2 ⟨rfl, rfl⟩
  clear HB HW
  obtain ⟨P, hP⟩ : ∃ P, w.heap.size = P := ⟨_, rfl⟩
  rw [hP] at HQ hbs ⊢
  have HP := hid hP
  clear hP
  go_wp2
  have b0 : Below W.heap.size W W := Below.refl _ _
  go_loopg [5, 6, 7] n (fun g cv fv iv wr => ∃ k : Nat, k + g = n + B ∧ B ≤ k ∧ k ≤ n ∧ iv = .int .i64 k ∧ cv = .int .i64 ((cntM xs x B k).1 : Nat) ∧ fv = .int .i64 (cntM xs x B k).2 ∧ Below W.heap.size W wr)
  case atStart =>
    have e : cntM xs x B B = (0, -1) := by unfold cntM; rw [Mk.cntK_start]; split <;> rfl
    exact ⟨B, by omega, Nat.le_refl _, hB, rfl, by rw [e]; rfl, by rw [e], b0⟩
  case round =>
    clear b0
    obtain ⟨k, hk, hBk, hkn, rfl, rfl, rfl, hb⟩ := hrel
    obtain ⟨z0, z1, z2⟩ := HQ.out wr hb
    obtain ⟨C, hC⟩ : ∃ C, (cntM xs x B k).1 = C := ⟨_, rfl⟩
    obtain ⟨F, hF⟩ : ∃ F, (cntM xs x B k).2 = F := ⟨_, rfl⟩
    rw [hC, hF]
    have HC := hid hC
    have HFF := hid hF
    clear hC hF
    by_cases hlt : k < n
    · have d1 : decide (k < n) = true := decide_eq_true hlt
      have hltI : (k : Int) < (n : Int) := by omega
      by_cases hneg : x.id < 0
      · have d2 : decide ((0 : Int) ≤ r.id) = false := decide_eq_false (by rw [HGid.out]; omega)
        have d2' : ¬ (0 : Int) ≤ r.id := by rw [HGid.out]; omega
        have HSK2 := hid (show Mk.skipI xs x = -1 by unfold Mk.skipI; rw [if_pos hneg])
        have HC3 := hid (show C < 3 by rw [← HC.out]; unfold cntM; rw [if_pos hneg]; decide)
        have HF3 : Hid (Mk.skipI xs x = if C < 3 then -1 else F) := hid (by rw [if_pos HC3.out]; exact HSK2.out)
        have HC9 := hid (show C ≤ 4000000 by have := HC3.out; omega)
        clear HSK2 HC3
        obtain ⟨S, hS⟩ : ∃ S, Mk.skipI xs x = S := ⟨_, rfl⟩
        have hHF3 := HF3.out
        rw [hS] at hHF3
        have HH3 := hid hHF3
        clear hHF3
        have hc9 := HC9.out
        have HS := hid hS
        clear hS HF3 HC9 HSK HAL HC HFF
        go_wp2
        clear z0 z1 z2
        have b0 : Below W.heap.size W wr := hb
        clear hb
        go_loopw [9, 10] (fun v vi wr => ∃ j : Nat, vi = .int .i64 j ∧ j ≤ n ∧ wr.ownsRow W.heap.size 25 3 v (Mk.keepK rs S j).length (mL (Mk.keepK rs S j)) ∧ Below W.heap.size W wr) (fun _ vi _ => n - (RowKit.intOf vi).toNat)
        case atStart => exact ⟨0, rfl, Nat.zero_le _, World.ownsRow_nil _ _ _ _, b0⟩
        case round =>
          clear b0
          obtain ⟨j, rfl, hj, hown, hb⟩ := hrel
          have hkl := keepK_len rs S j
          have hbz := hb.size
          by_cases hlt2 : j < n
          · have d6 : decide (j < n) = true := decide_eq_true hlt2
            have hltI2 : (j : Int) < (n : Int) := by omega
            obtain ⟨blk, off, s, y, rfl, hs, hy, f, c0, c1, c2⟩ := (HM.out.below hb).get hlt2
            have c0' : wr.cell? ⟨blk, off + j * 3, none⟩ = some (.int .i64 s.id) := by rw [c0, f.id]
            have c1' : wr.cell? ⟨blk, off + j * 3 + 1, none⟩ = some (.string (bs s.name)) := by rw [c1, f.name]
            have HNW := hid (BlkW.new wr #[.int .i64 s.id, .string (bs s.name), .slice s.aa s.an s.ac] 25)
            have HOW := hid (hown.alloc (.cells #[.int .i64 s.id, .string (bs s.name), .slice s.aa s.an s.ac] 25))
            have HBB := hid (hb.alloc hb.size (.cells #[.int .i64 s.id, .string (bs s.name), .slice s.aa s.an s.ac] 25))
            have hks := Mk.keepK_step (skip := S) hs
            clear c0 c1 hy f hs
            by_cases hC3 : C < 3
            · have d7 : decide ((C : Int) < 3) = true := decide_eq_true (by omega)
              have hC3I : (C : Int) < 3 := by omega
              have hs3 := HH3.out
              rw [if_pos hC3] at hs3
              rw [if_neg (by omega)] at hks
              clear hs3
              have HK := hid hks
              clear hks hown hb
              go_wp2_with (at_builtin; refine append_m rfl _ _ rfl W.heap.size _ (Mk.keepK rs S j) rfl HOW.out wr.heap.size _ s rfl HNW.out (by omega) (by simp; omega) ?_)
              intro v' w' o1 g1
              have BB := hid (HBB.out.grown g1 (by simp; omega) (own_ge HOW.out))
              rw [← HK.out] at o1
              have HO1 := hid o1
              clear o1 g1 HOW HNW HBB
              go_wp2
              go_roundw
              case rel => exact ⟨j + 1, by go_num, by omega, row_lenM (by first | rfl | (rw [HK.out, List.length_append]; rfl)) HO1.out, BB.out⟩
              case measure => simp [RowKit.intOf]; omega
            · have d7 : decide ((C : Int) < 3) = false := decide_eq_false (by omega)
              have hC3I : ¬ (C : Int) < 3 := by omega
              have hs3 := HH3.out
              rw [if_neg hC3] at hs3
              by_cases hjF : (j : Int) = F
              · have d8 : ((j : Int) != F) = false := by simp [hjF]
                rw [if_pos (by rw [hs3]; exact hjF)] at hks
                clear hs3
                clear HNW HOW HBB c0' c1' c2
                have HO1 := hid (show wr.ownsRow W.heap.size 25 3 _ (Mk.keepK rs S (j + 1)).length (mL (Mk.keepK rs S (j + 1))) by rw [hks]; exact hown)
                have HBb := hid hb
                clear hown hb hks
                go_wp2
                go_roundw
                case rel => exact ⟨j + 1, by go_num, by omega, HO1.out, HBb.out⟩
                case measure => simp [RowKit.intOf]; omega
              · have d8 : ((j : Int) != F) = true := by simp [hjF]
                rw [if_neg (by rw [hs3]; exact hjF)] at hks
                clear hs3
                have HK := hid hks
                clear hks hown hb
                go_wp2_with (at_builtin; refine append_m rfl _ _ rfl W.heap.size _ (Mk.keepK rs S j) rfl HOW.out wr.heap.size _ s rfl HNW.out (by omega) (by simp; omega) ?_)
                intro v' w' o1 g1
                have BB := hid (HBB.out.grown g1 (by simp; omega) (own_ge HOW.out))
                rw [← HK.out] at o1
                have HO1 := hid o1
                clear o1 g1 HOW HNW HBB
                go_wp2
                go_roundw
                case rel => exact ⟨j + 1, by go_num, by omega, row_lenM (by first | rfl | (rw [HK.out, List.length_append]; rfl)) HO1.out, BB.out⟩
                case measure => simp [RowKit.intOf]; omega
          · have d6 : decide (j < n) = false := decide_eq_false hlt2
            have hltI2 : ¬ (j : Int) < (n : Int) := by omega
            obtain rfl : j = n := by omega
            obtain ⟨z0, z1, z2⟩ := HQ.out wr hb
            have HNW := hid (BlkW.new wr #[.int .i64 r.id, .string (bs r.name), .slice r.aa r.an r.ac] 25)
            have HOW := hid (hown.alloc (.cells #[.int .i64 r.id, .string (bs r.name), .slice r.aa r.an r.ac] 25))
            have HBB := hid (hb.alloc hb.size (.cells #[.int .i64 r.id, .string (bs r.name), .slice r.aa r.an r.ac] 25))
            clear hown hb
            go_wp2_with (at_builtin; refine append_m rfl _ _ rfl W.heap.size _ (Mk.keepK rs S j) rfl HOW.out wr.heap.size _ r rfl HNW.out (by omega) (by simp; omega) ?_)
            intro v' w' o1 g1
            have BB := HBB.out.grown g1 (by simp; omega) (own_ge HOW.out)
            have hpl : Mk.pushL xs x = Mk.keepK xs S j ++ [x] := by unfold Mk.pushL; rw [HS.out, hln]
            have HNM := hid (show NewM w w' (.returned v') (Mk.pushL xs x) by
              rw [hpl]
              exact new_end (by rw [HP.out]; omega) (row_lenM (by first | rfl | (rw [List.length_append]; rfl)) o1) (((HM.out.atts.below BB).keep S j).snoc (HF.out.below BB)) (by rw [List.length_append]; simp; omega))
            have HBB2 := hid (Hb.out.trans (BB.mono Hb.out.size))
            clear o1 g1 HOW HNW HBB BB hpl
            go_wp2
            go_ret
            exact ⟨HNM.out, HBB2.out⟩
      · have d2 : decide ((0 : Int) ≤ r.id) = true := decide_eq_true (by rw [HGid.out]; omega)
        have d2' : (0 : Int) ≤ r.id := by rw [HGid.out]; omega
        obtain ⟨blk, off, s, y, rfl, hs, hy, f, c0, c1, c2⟩ := (HM.out.below hb).get hlt
        have hCK : cntM xs x B k = Mk.cntK xs x B k := by unfold cntM; rw [if_neg hneg]
        have hCK1 : cntM xs x B (k + 1) = Mk.cntK xs x B (k + 1) := by unfold cntM; rw [if_neg hneg]
        have hC' : (Mk.cntK xs x B k).1 = C := by rw [← hCK]; exact HC.out
        have hF' : (Mk.cntK xs x B k).2 = F := by rw [← hCK]; exact HFF.out
        have hCle : C ≤ 4000000 := by have := Mk.cnt_le xs x B k; omega
        have hst := Mk.cntK_step (m := x) hBk hy
        rw [hC', hF'] at hst
        have HST := hid (hCK1.trans hst)
        have HOLD := hid hCK
        have c0' : wr.cell? ⟨blk, off + k * 3, none⟩ = some (.int .i64 s.id) := by rw [c0, f.id]
        have c1' : wr.cell? ⟨blk, off + k * 3 + 1, none⟩ = some (.string (bs s.name)) := by rw [c1, f.name]
        have hCF := hid (Mk.cnt_spec xs x B k)
        rw [hC', hF'] at hCF
        have HAX := hid fun V (hV : Below wr.heap.size wr V) => HAL.out V (hb.trans (hV.mono hb.size)) s y (f.below hV)
        have e0 := Below.refl wr.heap.size wr
        clear hst hCK hCK1 hC' hF' f
        obtain ⟨A, hA⟩ : ∃ A, Mk.alike x y = A := ⟨_, rfl⟩
        rw [hA] at HST HAX
        clear hA hy hs
        go_wp2
        clear c0 c1
        first
          | (go_region_with (first | (go_at_call 26; (with_reducible refine (HAX.out _ e0.drew).mono ?_); rintro e wk ⟨rfl, bk⟩; have BK := hid (hb.trans ((e0.drew.trans (bk.mono e0.drew.size)).mono hb.size)); clear bk)))
          | fail
        all_goals
          clear z0 z1 z2 c0' c1' c2 e0 HAX
          cases A with
          | false =>
            have e1 : cntM xs x B (k + 1) = cntM xs x B k := by rw [HST.out, HOLD.out]; rfl
            go_wp2
            go_roundg (n + B - (k + 1))
            case measure => omega
            case rel => exact ⟨k + 1, by omega, by omega, by omega, by go_num, by rw [e1, HC.out], by rw [e1, HFF.out], BK.out⟩
          | true =>
            have e1 : cntM xs x B (k + 1) = (C + 1, if F < 0 then (k : Int) else F) := by rw [HST.out]; rfl
            by_cases hF0 : F < 0
            · have d5 : decide (F < 0) = true := decide_eq_true hF0
              rw [if_pos hF0] at e1
              go_wp2
              go_roundg (n + B - (k + 1))
              case measure => omega
              case rel => exact ⟨k + 1, by omega, by omega, by omega, by go_num, by rw [e1]; go_num, by rw [e1], BK.out⟩
            · have d5 : decide (F < 0) = false := decide_eq_false hF0
              rw [if_neg hF0] at e1
              go_wp2
              go_roundg (n + B - (k + 1))
              case measure => omega
              case rel => exact ⟨k + 1, by omega, by omega, by omega, by go_num, by rw [e1]; go_num, by rw [e1], BK.out⟩
    · have d1 : decide (k < n) = false := decide_eq_false hlt
      have hltI : ¬ (k : Int) < (n : Int) := by omega
      obtain rfl : k = n := by omega
      have HF3 : Hid (Mk.skipI xs x = if C < 3 then -1 else F) := hid (by rw [HSK.out, HC.out, HFF.out])
      have HC9 := hid (show C ≤ 4000000 by
        rw [← HC.out]
        unfold cntM
        split
        · exact Nat.zero_le _
        · have := Mk.cnt_le xs x B k
          omega)
      obtain ⟨S, hS⟩ : ∃ S, Mk.skipI xs x = S := ⟨_, rfl⟩
      have hHF3 := HF3.out
      rw [hS] at hHF3
      have HH3 := hid hHF3
      clear hHF3
      have hc9 := HC9.out
      have HS := hid hS
      clear hS HF3 HC9 HSK HAL HC HFF
      go_wp2
      clear z0 z1 z2
      have b0 : Below W.heap.size W wr := hb
      clear hb
      go_loopw [9, 10] (fun v vi wr => ∃ j : Nat, vi = .int .i64 j ∧ j ≤ k ∧ wr.ownsRow W.heap.size 25 3 v (Mk.keepK rs S j).length (mL (Mk.keepK rs S j)) ∧ Below W.heap.size W wr) (fun _ vi _ => k - (RowKit.intOf vi).toNat)
      case atStart => exact ⟨0, rfl, Nat.zero_le _, World.ownsRow_nil _ _ _ _, b0⟩
      case round =>
        clear b0
        obtain ⟨j, rfl, hj, hown, hb⟩ := hrel
        have hkl := keepK_len rs S j
        have hbz := hb.size
        by_cases hlt2 : j < k
        · have d6 : decide (j < k) = true := decide_eq_true hlt2
          have hltI2 : (j : Int) < (k : Int) := by omega
          obtain ⟨blk, off, s, y, rfl, hs, hy, f, c0, c1, c2⟩ := (HM.out.below hb).get hlt2
          have c0' : wr.cell? ⟨blk, off + j * 3, none⟩ = some (.int .i64 s.id) := by rw [c0, f.id]
          have c1' : wr.cell? ⟨blk, off + j * 3 + 1, none⟩ = some (.string (bs s.name)) := by rw [c1, f.name]
          have HNW := hid (BlkW.new wr #[.int .i64 s.id, .string (bs s.name), .slice s.aa s.an s.ac] 25)
          have HOW := hid (hown.alloc (.cells #[.int .i64 s.id, .string (bs s.name), .slice s.aa s.an s.ac] 25))
          have HBB := hid (hb.alloc hb.size (.cells #[.int .i64 s.id, .string (bs s.name), .slice s.aa s.an s.ac] 25))
          have hks := Mk.keepK_step (skip := S) hs
          clear c0 c1 hy f hs
          by_cases hC3 : C < 3
          · have d7 : decide ((C : Int) < 3) = true := decide_eq_true (by omega)
            have hC3I : (C : Int) < 3 := by omega
            have hs3 := HH3.out
            rw [if_pos hC3] at hs3
            rw [if_neg (by omega)] at hks
            clear hs3
            have HK := hid hks
            clear hks hown hb
            go_wp2_with (at_builtin; refine append_m rfl _ _ rfl W.heap.size _ (Mk.keepK rs S j) rfl HOW.out wr.heap.size _ s rfl HNW.out (by omega) (by simp; omega) ?_)
            intro v' w' o1 g1
            have BB := hid (HBB.out.grown g1 (by simp; omega) (own_ge HOW.out))
            rw [← HK.out] at o1
            have HO1 := hid o1
            clear o1 g1 HOW HNW HBB
            go_wp2
            go_roundw
            case rel => exact ⟨j + 1, by go_num, by omega, row_lenM (by first | rfl | (rw [HK.out, List.length_append]; rfl)) HO1.out, BB.out⟩
            case measure => simp [RowKit.intOf]; omega
          · have d7 : decide ((C : Int) < 3) = false := decide_eq_false (by omega)
            have hC3I : ¬ (C : Int) < 3 := by omega
            have hs3 := HH3.out
            rw [if_neg hC3] at hs3
            by_cases hjF : (j : Int) = F
            · have d8 : ((j : Int) != F) = false := by simp [hjF]
              rw [if_pos (by rw [hs3]; exact hjF)] at hks
              clear hs3
              clear HNW HOW HBB c0' c1' c2
              have HO1 := hid (show wr.ownsRow W.heap.size 25 3 _ (Mk.keepK rs S (j + 1)).length (mL (Mk.keepK rs S (j + 1))) by rw [hks]; exact hown)
              have HBb := hid hb
              clear hown hb hks
              go_wp2
              go_roundw
              case rel => exact ⟨j + 1, by go_num, by omega, HO1.out, HBb.out⟩
              case measure => simp [RowKit.intOf]; omega
            · have d8 : ((j : Int) != F) = true := by simp [hjF]
              rw [if_neg (by rw [hs3]; exact hjF)] at hks
              clear hs3
              have HK := hid hks
              clear hks hown hb
              go_wp2_with (at_builtin; refine append_m rfl _ _ rfl W.heap.size _ (Mk.keepK rs S j) rfl HOW.out wr.heap.size _ s rfl HNW.out (by omega) (by simp; omega) ?_)
              intro v' w' o1 g1
              have BB := hid (HBB.out.grown g1 (by simp; omega) (own_ge HOW.out))
              rw [← HK.out] at o1
              have HO1 := hid o1
              clear o1 g1 HOW HNW HBB
              go_wp2
              go_roundw
              case rel => exact ⟨j + 1, by go_num, by omega, row_lenM (by first | rfl | (rw [HK.out, List.length_append]; rfl)) HO1.out, BB.out⟩
              case measure => simp [RowKit.intOf]; omega
        · have d6 : decide (j < k) = false := decide_eq_false hlt2
          have hltI2 : ¬ (j : Int) < (k : Int) := by omega
          obtain rfl : j = k := by omega
          obtain ⟨z0, z1, z2⟩ := HQ.out wr hb
          have HNW := hid (BlkW.new wr #[.int .i64 r.id, .string (bs r.name), .slice r.aa r.an r.ac] 25)
          have HOW := hid (hown.alloc (.cells #[.int .i64 r.id, .string (bs r.name), .slice r.aa r.an r.ac] 25))
          have HBB := hid (hb.alloc hb.size (.cells #[.int .i64 r.id, .string (bs r.name), .slice r.aa r.an r.ac] 25))
          clear hown hb
          go_wp2_with (at_builtin; refine append_m rfl _ _ rfl W.heap.size _ (Mk.keepK rs S j) rfl HOW.out wr.heap.size _ r rfl HNW.out (by omega) (by simp; omega) ?_)
          intro v' w' o1 g1
          have BB := HBB.out.grown g1 (by simp; omega) (own_ge HOW.out)
          have hpl : Mk.pushL xs x = Mk.keepK xs S j ++ [x] := by unfold Mk.pushL; rw [HS.out, hln]
          have HNM := hid (show NewM w w' (.returned v') (Mk.pushL xs x) by
            rw [hpl]
            exact new_end (by rw [HP.out]; omega) (row_lenM (by first | rfl | (rw [List.length_append]; rfl)) o1) (((HM.out.atts.below BB).keep S j).snoc (HF.out.below BB)) (by rw [List.length_append]; simp; omega))
          have HBB2 := hid (Hb.out.trans (BB.mono Hb.out.size))
          clear o1 g1 HOW HNW HBB BB hpl
          go_wp2
          go_ret
          exact ⟨HNM.out, HBB2.out⟩
end Go.Proofs.Ytmgbjkekfejnfaa
