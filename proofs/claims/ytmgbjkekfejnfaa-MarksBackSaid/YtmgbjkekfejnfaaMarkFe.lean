/- Walks over the statements of layer 12: MarksFew, over what the program is known to do. -/
import Derived.Test.YtmgbjkekfejnfaaMarkBk
namespace Go.Proofs.Ytmgbjkekfejnfaa
open Go.RowKit Go.Lib
set_option maxRecDepth 100000
set_option linter.unusedVariables false
/-- What has been pushed so far. -/
def SoFew (w : World) (most : Nat) (v : Value) (wr : World) : Prop := ∃ a c rs ys, v = .slice a ys.length c ∧ MarksIn a ys.length c rs ys wr ∧ Mk.Few ys ∧ ys.length ≤ most ∧ Below w.heap.size w wr ∧ ShortM ys
theorem marks_nil (w : World) : MarksIn none 0 0 [] [] w := ⟨⟨rfl, .inl rfl⟩, AttsM.nil w, by omega, Nat.le_refl _, by omega⟩
set_option maxHeartbeats 16000000 in
theorem mfew_any (K : MarksC) (a : Option Addr) (n c : Nat) (rs : List MR) (xs : List Mk.M) (w : World) (h : RowM w a n rs) (hC : CamesM w rs xs) (h1 : n ≤ c) (h2 : c ≤ 9223372036854775807) (hsn : ShortM xs) :
    Calls Try.prog 5 #[.slice a n c] w fun e w' => e = .returned (.bool true) ∧ Below w.heap.size w w' := by
  have HM1 := hid fun W (hb : Below w.heap.size w W) => muchM_any a n c rs xs W (h.below hb) (hC.below hb) h1 h2
  have HKN := hid fun W => knownM_any K W
  have HIN := hid fun (hn : n ≤ 60) => (show MarksIn a n c rs xs w from ⟨h, hC.fits, by omega, h1, h2⟩)
  have HP := hid K.push
  have HSN := hid hsn
  clear h hC hsn
  go_enter Try.func5, Try.ntmps5
  go_wp2_with fail
  refine (HM1.out _ (Below.refl _ w)).mono ?_
  rintro e w1 ⟨⟨b1, rfl, hb1⟩, bx⟩
  have B1 := hid bx
  clear bx HM1
  cases b1 with
  | true =>
    go_wp2_with fail
    refine (HKN.out w1).mono ?_
    rintro e w2 ⟨rfl, bx⟩
    have B2 := hid (B1.out.trans (bx.mono B1.out.size))
    clear bx
    go_wp2
    go_ret
    exact ⟨rfl, B2.out⟩
  | false =>
    by_cases hm : n ≤ 60
    · have d1 : decide ((60 : Int) < (n : Int)) = false := decide_eq_false (by omega)
      have d1' : ¬ (60 : Int) < (n : Int) := by omega
      have I0 := hid (HIN.out hm)
      go_wp2_with fail
      refine (HKN.out w1).mono ?_
      rintro e w3 ⟨rfl, bx⟩
      have B3 := hid (B1.out.trans (bx.mono B1.out.size))
      clear bx hb1 HIN B1 d1 d1'
      have HS0 := hid (show SoFew w 0 (.slice none 0 0) w3 from ⟨none, 0, [], [], rfl, marks_nil w3, Mk.few_nil, Nat.le_refl _, B3.out, fun x hx => by cases hx⟩)
      go_wp2
      go_loopw [3, 4] (fun v vi wr => ∃ (k : Nat), vi = .int .i64 k ∧ k ≤ n ∧ Hid (SoFew w k v wr)) (fun _ vi _ => n - (RowKit.intOf vi).toNat)
      case atStart => exact ⟨0, rfl, Nat.zero_le _, HS0⟩
      case round =>
        clear HS0
        obtain ⟨k, rfl, hk, hS⟩ := hrel
        obtain ⟨av, cv, rv, yv, rfl, mv, fv, lv, bv, sv⟩ := hS.out
        clear hS
        obtain ⟨pl, hpl⟩ : ∃ pl, yv.length = pl := ⟨_, rfl⟩
        rw [hpl] at mv lv ⊢
        have HPL := hid hpl
        clear hpl
        have MV := hid mv
        have FV := hid fv
        have BV := hid bv
        have SV := hid sv
        clear mv fv bv sv
        by_cases hlt : k < n
        · have d1 : decide (k < n) = true := decide_eq_true hlt
          have hltI : (k : Int) < (n : Int) := by omega
          obtain ⟨blk, off, r, x, rfl, hr, hx, f, c0, c1, c2⟩ := (I0.out.below BV.out).get hlt
          have hxn := HSN.out x (List.mem_of_getElem? hx)
          generalize x.id = z at *
          generalize x.name = nm at *
          have HXN := hid hxn
          clear hxn
          have za := (Below.refl wr.heap.size wr).alloc (Nat.le_refl _) (.cells #[.int .i64 0, .string ⟨#[]⟩, .slice none 0 0] 25)
          have c0a := cell_up c0 za
          have c1a := cell_up c1 za
          clear f hr hx c2 za
          go_wp2
          go_region
          clear c0 c1 c0a c1a
          obtain ⟨W5, hW5⟩ : ∃ W5, (wr.alloc (.cells #[.int .i64 z, .string (bs nm), .slice none 0 0] 25)).drew = W5 := ⟨_, rfl⟩
          have b5 : Below wr.heap.size wr W5 := by rw [← hW5]; exact ((Below.refl wr.heap.size wr).alloc (Nat.le_refl _) _).drew
          have k5 : BlkW W5 wr.heap.size #[.int .i64 z, .string (bs nm), .slice none 0 0] 25 := by rw [← hW5]; exact BlkW.new wr _ _
          rw [hW5]
          have x0 := k5.cell 0
          have x1 := k5.cell 1
          have x2 := k5.cell 2
          simp only [List.getElem?_toArray, List.getElem?_cons_zero, List.getElem?_cons_succ] at x0 x1 x2
          have B5 := hid (BV.out.trans (b5.mono BV.out.size))
          have M5 := hid (MV.out.below b5)
          have K5 := hid (And.intro x0 (And.intro x1 x2))
          obtain ⟨P, hP⟩ : ∃ P, wr.heap.size = P := ⟨_, rfl⟩
          rw [hP] at x0 x1 x2 K5 ⊢
          clear hW5 b5 k5 MV BV hP
          have HPP := hid (HP.out av pl cv rv yv (bareR z nm) (bareX z nm) W5 M5.out (bare_fit _ _ _) (by omega) SV.out HXN.out)
          go_wp2_with fail
          refine HPP.out.mono ?_
          rintro e w6 ⟨⟨a6, c6, r6, rfl, m6, _⟩, bx⟩
          have y0 := cell_up K5.out.1 bx
          have y1 := cell_up K5.out.2.1 bx
          have B6 := hid (B5.out.trans (bx.mono B5.out.size))
          have hps := Mk.push_last yv (bareX z nm)
          have hpl := Mk.push_len yv (bareX z nm)
          have HFW := hid (Mk.few_push FV.out (show (bareX z nm).atts = [] from rfl))
          have SP := hid (SV.out.push (x := bareX z nm) HXN.out)
          obtain ⟨zs, hzs⟩ : ∃ zs, Mk.pushL yv (bareX z nm) = zs := ⟨_, rfl⟩
          rw [hzs] at m6 hps hpl HFW SP ⊢
          obtain ⟨q, hq⟩ : ∃ q, zs.length = q := ⟨_, rfl⟩
          rw [hq] at m6 hps hpl ⊢
          have HQ := hid hq
          have M6 := hid m6
          obtain ⟨ab, ao, lr, lx, rfl, _, hlx, _, l0, _, _⟩ := m6.get (show q - 1 < q by omega)
          rw [hps.1] at hlx
          cases hlx
          replace l0 : w6.cell? ⟨ab, ao + (q - 1) * 3, none⟩ = some (.int .i64 z) := l0
          have hq0 : ((q : Int) == 0) = false := by have := hps.2; simp; omega
          have hq1 : (q : Int) - 1 < (q : Int) := by omega
          have hq2 : (0 : Int) ≤ (q : Int) - 1 := by have := hps.2; omega
          have hq3 : ((q : Int) - 1).toNat = q - 1 := by omega
          have hzz : (z != z) = false := by simp
          have hq4 : q ≤ 100 := by have := HPL.out; omega
          have hqn : q ≠ 0 := hps.2
          clear x0 x1 x2 K5 HPP bx m6 hps M5
          go_wp2
          go_quiet (fail)
          go_wp2
          obtain ⟨T, hT⟩ : ∃ T, Mk.tcnt zs nm q = T := ⟨_, rfl⟩
          have hT3 : T ≤ 3 := by rw [← hT, ← HQ.out]; exact HFW.out.2 nm
          have HT := hid hT
          have K6 := hid (And.intro y0 y1)
          have b60 : Below w6.heap.size w6 (w6.drewN nq) := bel_drewN (Below.refl _ _) _
          clear y0 y1 l0 hq0 hq1 hq2 hq3 hzz hT
          go_loopg [6, 7] q (fun g cv kv wr => ∃ (j cnt : Nat), j = g ∧ j ≤ q ∧ kv = .int .i64 ((j : Int) - 1) ∧ cv = .int .i64 cnt ∧ Hid (cnt + Mk.tcnt zs nm j = T) ∧ Below w6.heap.size w6 wr)
          case atStart => exact ⟨q, 0, rfl, Nat.le_refl _, by go_num, rfl, hid (by rw [Nat.zero_add]; exact HT.out), b60⟩
          case round =>
            clear b60
            obtain ⟨jj, cnt, hj, hjq, rfl, rfl, hI, hb⟩ := hrel
            have hcnt : cnt ≤ 3 := by have := hI.out; omega
            have hcd : decide ((3 : Int) < (cnt : Int)) = false := decide_eq_false (by omega)
            have hcd' : ¬ (3 : Int) < (cnt : Int) := by omega
            have HS := hid (show SoFew w (k + 1) (.slice (some ⟨ab, ao, none⟩) q c6) wr from ⟨_, _, _, zs, by rw [HQ.out], by rw [HQ.out]; exact M6.out.below hb, HFW.out, by have := HPL.out; have := HQ.out; omega, B6.out.trans (hb.mono B6.out.size), SP.out⟩)
            by_cases h0 : jj = 0
            · subst h0
              have kz : ((0 : Nat) : Int) - 1 = -1 := rfl
              rw [kz]
              clear hI hb kz
              go_wp2
              go_roundw
              case rel => exact ⟨k + 1, by go_num, by omega, HS⟩
              case measure => simp [RowKit.intOf]; omega
            · obtain ⟨j, rfl⟩ : ∃ j, jj = j + 1 := ⟨jj - 1, by omega⟩
              have dj : decide ((0 : Int) ≤ (j : Int)) = true := decide_eq_true (by omega)
              have jj1 : ((j + 1 : Nat) : Int) - 1 = (j : Int) := by omega
              rw [jj1]
              obtain ⟨ab2, ao2, ur, ux, e2, _, hux, _, v0, v1, _⟩ := (M6.out.below hb).get (show j < q by omega)
              cases e2
              have hjl : (j : Int) < (q : Int) := by omega
              have hjl2 : j < q := by omega
              rw [Mk.tcnt_step hux] at hI
              clear hux
              generalize ux.id = uz at *
              by_cases hneg : 0 ≤ uz
              · have dn : decide ((0 : Int) ≤ uz) = true := decide_eq_true hneg
                have t0 := cell_up K6.out.1 hb
                have t1 := cell_up K6.out.2 hb
                have hI := hid (show cnt + ((if ux.name = nm then 1 else 0) + Mk.tcnt zs nm j) = T by rw [← hI.out, if_neg (show ¬ uz < 0 by omega)])
                by_cases hnm : ux.name = nm
                · have hN := hid (show cnt + 1 + Mk.tcnt zs nm j = T by have := hI.out; rw [if_pos hnm] at this; omega)
                  rw [hnm] at v1
                  have hee : ((bs nm).toList == (bs nm).toList) = true := by simp
                  clear hI hnm
                  generalize bs nm = X at *
                  go_wp2
                  go_quiet (fail)
                  go_wp2
                  go_roundg j
                  case measure => omega
                  case rel => exact ⟨j, cnt + 1, rfl, by omega, by go_num, by go_num, hN, bel_drewN hb _⟩
                · have hN := hid (show cnt + Mk.tcnt zs nm j = T by have := hI.out; rw [if_neg hnm] at this; omega)
                  have hee : ((bs ux.name).toList == (bs nm).toList) = false := beq_eq_false_iff_ne.2 fun e => hnm (bs_inj e)
                  clear hI hnm
                  generalize bs nm = X at *
                  generalize bs ux.name = Y at *
                  go_wp2
                  go_quiet (fail)
                  go_wp2
                  go_roundg j
                  case measure => omega
                  case rel => exact ⟨j, cnt, rfl, by omega, by go_num, rfl, hN, bel_drewN hb _⟩
              · have dn : decide ((0 : Int) ≤ uz) = false := decide_eq_false hneg
                clear hI hb
                go_wp2
                go_roundw
                case rel => exact ⟨k + 1, by go_num, by omega, HS⟩
                case measure => simp [RowKit.intOf]; omega
        · have d1 : decide (k < n) = false := decide_eq_false hlt
          have hltI : ¬ (k : Int) < (n : Int) := by omega
          go_wp2
          go_ret
          exact ⟨rfl, BV.out⟩
    · have d1 : decide ((60 : Int) < (n : Int)) = true := decide_eq_true (by omega)
      have d1' : (60 : Int) < (n : Int) := by omega
      go_wp2_with fail
      refine (HKN.out w1).mono ?_
      rintro e w3 ⟨rfl, bx⟩
      have B3 := hid (B1.out.trans (bx.mono B1.out.size))
      clear bx
      go_wp2
      go_ret
      exact ⟨rfl, B3.out⟩
end Go.Proofs.Ytmgbjkekfejnfaa
