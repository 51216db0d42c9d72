/- Walks over the reference of layer 5: Check. -/
import Derived.Test.YtpheaepifjcmiaaDoorRefSch
import Derived.Test.YtpheaepifjcmiaaDoorCheck
namespace Go.Proofs.YtpheaepifjcmiaaDoor
open Go.RowKit Go.Lib Rule
set_option maxRecDepth 100000
set_option linter.unusedVariables false

theorem isS_drew {w : World} {a : Option Addr} {len : Nat} {ls : List (List UInt8)} (h : IsS w a len ls) (n : Nat) : IsS (w.drewN n) a len ls := h
theorem quietS {P : Program} {f : FuncId} {args : Array Value} {w : World} {n : Nat} {v : Value}
    (h : Calls P f args (w.drewN n) fun e w' => e = .returned v ∧ w.drewN n = w') : Calls P f args (w.drewN n) fun e w'' => e = .returned v ∧ ∃ m, w'' = w.drewN m :=
  Calls.quiet_of_same (h.mono fun _ _ ⟨a, b⟩ => ⟨a, b.symm⟩)
def rchk (b : Bool) : Ending := .returned (.int .i64 (if b = true then 0 else 50))
theorem rchk_yes {b : Bool} (h : b = true) : Ending.returned (.int .i64 0) = rchk b := by rw [h]; rfl
theorem rchk_no {b : Bool} (h : b = false) : Ending.returned (.int .i64 50) = rchk b := by rw [h]; rfl
section
variable {es : List (List UInt8)} {ats : List (List UInt8 × List UInt8)} {ss : List (List UInt8)}
theorem ok_f1 (h : listB knownB es = false) : okB es ats ss = false := by unfold okB; rw [h]; rfl
theorem ok_f2 (h : wholeB es = false) : okB es ats ss = false := by unfold okB; rw [h]; simp
theorem ok_f3 (h : listB (haveB es) ats = false) : okB es ats ss = false := by unfold okB; rw [h]; simp
theorem ok_f4 (h : listB leadB ss = false) : okB es ats ss = false := by unfold okB; rw [h]; simp
theorem ok_t (h1 : listB knownB es = true) (h2 : wholeB es = true) (h3 : listB (haveB es) ats = true) (h4 : listB leadB ss = true) : okB es ats ss = true := by unfold okB; rw [h1, h2, h3, h4]; rfl
end
theorem tabs_next {es : List (List UInt8)} {k n : Nat} {l : List UInt8} (h : tabsN (es.take k) = n) (hl : es[k]? = some l) : tabsN (es.take (k + 1)) = n + if tabB l = true then 1 else 0 := by
  rw [← h]
  unfold tabsN
  rw [List.take_add_one, hl, List.countP_append]
  show _ + List.countP tabB [l] = _
  rw [List.countP_singleton]
theorem take_mem {α : Type} [BEq α] [LawfulBEq α] {l : List α} {m k : Nat} {x : α} (h : l[m]? = some x) (hm : m < k) : (l.take k).contains x = true := by
  refine List.contains_iff_mem.2 (List.mem_of_getElem? (i := m) ?_)
  rwa [List.getElem?_take_of_lt hm]

set_option maxHeartbeats 8000000 in
theorem rcheck_any (a1 : Option Addr) (n1 c1 : Nat) (es : List (List UInt8)) (a2 : Option Addr) (n2 c2 : Nat) (ats : List (List UInt8 × List UInt8)) (a3 : Option Addr) (n3 c3 : Nat) (ss : List (List UInt8)) (w : World)
    (h : PolW w a1 n1 c1 es a2 n2 c2 ats a3 n3 c3 ss) :
    Calls Tryd.prog 11 #[.agg #[.slice a1 n1 c1, .slice a2 n2 c2, .slice a3 n3 c3]] w fun e w' => e = rchk (okB es ats ss) ∧ Below w.heap.size w w' := by
  have HH := hid h
  have hl1 := h.is1.1
  have hl2 := h.is2.1
  have hl3 := h.is3.1
  have lc1 := h.lc1
  have lc2 := h.lc2
  have lc3 := h.lc3
  have cm1 := h.cm1
  have cm2 := h.cm2
  have cm3 := h.cm3
  obtain ⟨r, hr⟩ : ∃ r, okB es ats ss = r := ⟨_, rfl⟩
  rw [hr]
  have HR := hid hr
  clear hr h
  have b0 := hid ((Below.refl w.heap.size w).alloc (Nat.le_refl _) (.cells #[.slice a1 n1 c1, .slice a2 n2 c2, .slice a3 n3 c3] 25))
  by_cases t1 : 400 < n1
  · have d1 : decide ((400 : Int) < (n1 : Int)) = true := decide_eq_true (by omega)
    have HF := hid (show r = false by rw [← HR.out]; exact ok_f1 (list_long (by omega)))
    clear hl1 hl2 hl3
    go_enter Tryd.func11, Tryd.ntmps11
    go_wp2
    go_ret
    exact ⟨rchk_no HF.out, b0.out⟩
  have d1 : decide ((400 : Int) < (n1 : Int)) = false := decide_eq_false (by omega)
  by_cases t2 : 400 < n2
  · have d2 : decide ((400 : Int) < (n2 : Int)) = true := decide_eq_true (by omega)
    have HF := hid (show r = false by rw [← HR.out]; exact ok_f3 (list_long (by omega)))
    clear hl1 hl2 hl3
    go_enter Tryd.func11, Tryd.ntmps11
    go_wp2
    go_ret
    exact ⟨rchk_no HF.out, b0.out⟩
  have d2 : decide ((400 : Int) < (n2 : Int)) = false := decide_eq_false (by omega)
  by_cases t3 : 400 < n3
  · have d3 : decide ((400 : Int) < (n3 : Int)) = true := decide_eq_true (by omega)
    have HF := hid (show r = false by rw [← HR.out]; exact ok_f4 (list_long (by omega)))
    clear hl1 hl2 hl3
    go_enter Tryd.func11, Tryd.ntmps11
    go_wp2
    go_ret
    exact ⟨rchk_no HF.out, b0.out⟩
  have d3 : decide ((400 : Int) < (n3 : Int)) = false := decide_eq_false (by omega)
  have HL1 := hid hl1
  have HL2 := hid hl2
  have HL3 := hid hl3
  clear hl1 hl2 hl3
  go_enter Tryd.func11, Tryd.ntmps11
  have r0 : (w.alloc (.cells #[.slice a1 n1 c1, .slice a2 n2 c2, .slice a3 n3 c3] 25)).cell? ⟨w.heap.size, 0, none⟩ = some (.slice a1 n1 c1) := by simp
  have r1 : (w.alloc (.cells #[.slice a1 n1 c1, .slice a2 n2 c2, .slice a3 n3 c3] 25)).cell? ⟨w.heap.size, 1, none⟩ = some (.slice a2 n2 c2) := by simp
  have r2 : (w.alloc (.cells #[.slice a1 n1 c1, .slice a2 n2 c2, .slice a3 n3 c3] 25)).cell? ⟨w.heap.size, 2, none⟩ = some (.slice a3 n3 c3) := by simp
  go_wp2
  obtain ⟨W, hW⟩ : ∃ W, w.alloc (.cells #[.slice a1 n1 c1, .slice a2 n2 c2, .slice a3 n3 c3] 25) = W := ⟨_, rfl⟩
  obtain ⟨P, hP⟩ : ∃ P, w.heap.size = P := ⟨_, rfl⟩
  rw [hW] at b0 r0 r1 r2 ⊢
  rw [hP] at r0 r1 r2 ⊢
  have HP := hid hP
  have h0 : ∀ V, Below W.heap.size W V → V.cell? ⟨P, 0, none⟩ = some (.slice a1 n1 c1) := fun V hV => (hV.cell (p := ⟨P, 0, none⟩) (World.block_lt_of_cell? _ _ r0)).trans r0
  have h1 : ∀ V, Below W.heap.size W V → V.cell? ⟨P, 1, none⟩ = some (.slice a2 n2 c2) := fun V hV => (hV.cell (p := ⟨P, 1, none⟩) (World.block_lt_of_cell? _ _ r1)).trans r1
  have h2 : ∀ V, Below W.heap.size W V → V.cell? ⟨P, 2, none⟩ = some (.slice a3 n3 c3) := fun V hV => (hV.cell (p := ⟨P, 2, none⟩) (World.block_lt_of_cell? _ _ r2)).trans r2
  have HP1 := hid (HH.out.below b0.out)
  clear hW hP r0 r1 r2
  go_loopg [3, 4] n1 (fun g tv iv wr => ∃ k n : Nat, k + g = n1 ∧ n ≤ k ∧ iv = .int .i64 k ∧ tv = .int .i64 n ∧ Hid (onceB knownB (es.take k) = true) ∧ Hid (tabsN (es.take k) = n) ∧ Below W.heap.size W wr)
  case atStart => exact ⟨0, 0, by omega, by omega, rfl, rfl, hid (once_nil _), hid rfl, Below.refl _ _⟩
  case round =>
    obtain ⟨k, n, hk, hnk, rfl, rfl, hI, hTn, hb⟩ := hrel
    by_cases hlt : k < n1
    · have d4 : decide (k < n1) = true := decide_eq_true hlt
      have hltI : (k : Int) < (n1 : Int) := by omega
      have q1 : k ≤ c1 := by omega
      have HB := hid (HP1.out.is1.below hb)
      obtain ⟨_, z0 | ⟨blk, off, rfl, hat⟩⟩ := HB.out
      · omega
      have hkl : k < es.length := by have := HL1.out; omega
      obtain ⟨l, hl⟩ : ∃ l, es[k]? = some l := ⟨_, List.getElem?_eq_getElem hkl⟩
      have hcell : wr.cell? ⟨blk, off + k, none⟩ = some (.string (bs l)) := hat k _ hl
      have K1 := rknown_any l wr
      have HIn := fun W (hW : IsS W (some ⟨blk, off, none⟩) k (es.take k)) => in_any _ k c1 _ l W hW (by omega) (by omega) cm1
      have HTb := fun (a : Addr) W (h : IsS W (some a) 7 tableN) => in_any (some a) 7 7 tableN l W h (by omega) (by omega) (by omega)
      rw [show tableN.contains l = tabB l from rfl] at HTb
      have hTnx := tabs_next hTn.out hl
      have HLl := hid hl
      generalize hX : bs l = X at *
      have HXx := hid hX
      cases hp : knownB l with
      | false =>
        have HF := hid (show r = false by rw [← HR.out]; exact ok_f1 (list_bad hl (.inl hp)))
        rw [hp] at K1
        have K1 := hid K1
        clear hp hl hat hTnx hX HIn HTb hI hTn
        go_wp2_with fail
        refine K1.out.mono ?_
        rintro e v1 ⟨rfl, k1⟩
        have e1 := hb.trans (k1.mono hb.size)
        clear k1
        go_wp2
        go_ret
        exact ⟨rchk_no HF.out, b0.out.trans (e1.mono b0.out.size)⟩
      | true =>
        rw [hp] at K1
        have K1 := hid K1
        cases hn : (es.take k).contains l with
        | true =>
          have HF := hid (show r = false by rw [← HR.out]; exact ok_f1 (list_bad hl (.inr hn)))
          rw [hn] at HIn
          have HIn := hid HIn
          clear hp hl hat hTnx hX HTb hI hTn hn
          go_wp2_with fail
          refine K1.out.mono ?_
          rintro e v1 ⟨rfl, k1⟩
          have e1 := hb.trans (k1.mono hb.size)
          have HT1 := hid ((HB.out.below k1).take k (by omega))
          clear k1
          go_wp2_with fail
          refine (HIn.out _ HT1.out).mono ?_
          rintro e v2 ⟨rfl, rfl⟩
          go_wp2
          go_ret
          exact ⟨rchk_no HF.out, b0.out.trans (e1.mono b0.out.size)⟩
        | false =>
          have HN := hid (once_next hI.out hl hp hn)
          rw [hn] at HIn
          have HIn := hid HIn
          cases ht : tabB l with
          | false =>
            rw [ht] at HTb hTnx
            have HTb := hid HTb
            have HTn := hid (show tabsN (es.take (k + 1)) = n from hTnx)
            clear hp hl hat hTnx hX hI hTn hn ht
            go_wp2_with fail
            refine K1.out.mono ?_
            rintro e v1 ⟨rfl, k1⟩
            have e1 := hb.trans (k1.mono hb.size)
            have HT1 := hid ((HB.out.below k1).take k (by omega))
            clear k1
            go_wp2_with fail
            refine (HIn.out _ HT1.out).mono ?_
            rintro e v2 ⟨rfl, rfl⟩
            go_wp2_with fail
            refine (HTb.out _ _ (isS_of_cells rfl (heap_alloc_new _ _) rfl)).mono ?_
            rintro e v3 ⟨rfl, rfl⟩
            go_wp2
            go_roundg (n1 - (k + 1))
            case measure => omega
            case rel => exact ⟨k + 1, n, by omega, by omega, by go_num, rfl, HN, HTn, e1.alloc e1.size _⟩
          | true =>
            rw [ht] at HTb hTnx
            have HTb := hid HTb
            have HTn := hid (show tabsN (es.take (k + 1)) = n + 1 from hTnx)
            clear hp hl hat hTnx hX hI hTn hn ht
            go_wp2_with fail
            refine K1.out.mono ?_
            rintro e v1 ⟨rfl, k1⟩
            have e1 := hb.trans (k1.mono hb.size)
            have HT1 := hid ((HB.out.below k1).take k (by omega))
            clear k1
            go_wp2_with fail
            refine (HIn.out _ HT1.out).mono ?_
            rintro e v2 ⟨rfl, rfl⟩
            go_wp2_with fail
            refine (HTb.out _ _ (isS_of_cells rfl (heap_alloc_new _ _) rfl)).mono ?_
            rintro e v3 ⟨rfl, rfl⟩
            go_wp2
            go_roundg (n1 - (k + 1))
            case measure => omega
            case rel => exact ⟨k + 1, n + 1, by omega, by omega, by go_num, by go_num, HN, HTn, e1.alloc e1.size _⟩
    · have d4 : decide (k < n1) = false := decide_eq_false hlt
      have hltI : ¬ (k : Int) < (n1 : Int) := by omega
      have hes : es.take k = es := List.take_of_length_le (by have := HL1.out; omega)
      have G1 := hid (show listB knownB es = true from list_ok (by have := HL1.out; omega) (by rw [← hes]; exact hI.out))
      have GT := hid (show tabsN es = n by rw [← hTn.out, hes])
      clear hes hI hTn
      by_cases hz : n = 0 ∨ n = 7
      · have G2 := hid (show wholeB es = true by unfold wholeB; rw [GT.out]; rcases hz with rfl | rfl <;> rfl)
        rcases hz with hz | hz
        · have m0 : ((n : Int) != 0) = false := by simp [hz]
          clear hz
          go_wp2
          go_loopg [6] n2 (fun g iv wr => ∃ k : Nat, k + g = n2 ∧ iv = .int .i64 k ∧ Hid (onceB (haveB es) (ats.take k) = true) ∧ Below W.heap.size W wr)
          case atStart => exact ⟨0, by omega, rfl, hid (once_nil _), hb⟩
          case round =>
            clear hb hlt d4 hltI hk hnk m0
            obtain ⟨k, hk, rfl, hI, hb⟩ := hrel
            by_cases hlt : k < n2
            · have d4 : decide (k < n2) = true := decide_eq_true hlt
              have hltI : (k : Int) < (n2 : Int) := by omega
              have HB := hid (HP1.out.is2.below hb)
              obtain ⟨_, z0 | ⟨blk, off, rfl, hat⟩⟩ := HB.out
              · omega
              have hkl : k < ats.length := by have := HL2.out; omega
              obtain ⟨⟨l, m⟩, hl⟩ : ∃ z, ats[k]? = some z := ⟨_, List.getElem?_eq_getElem hkl⟩
              obtain ⟨hcell, hcell2⟩ := hat k _ hl
              simp only at hcell hcell2
              have hTx := HP1.out.tx2 _ (List.mem_of_getElem? hl)
              have J1 := fun V (hV : Below W.heap.size W V) => in_any a1 n1 c1 es l V (HP1.out.is1.below hV) (by omega) lc1 cm1
              have J2 := rattrs_any
              have J3 := fun (a : Addr) V (h : IsS V (some a) 14 attrN) => in_any (some a) 14 14 attrN m V h (by omega) (by omega) (by omega)
              rw [show attrN.contains m = attrB m from rfl] at J3
              have hHv : haveB es (l, m) = (es.contains l && attrB m) := rfl
              have HLl := hid hl
              have hA := hid (hb.alloc hb.size (.cells #[.string (bs l), .string (bs m)] 36))
              generalize hX : bs l = X at *
              generalize hY : bs m = Y at *
              have HXx := hid hX
              have HYy := hid hY
              have J2 := hid J2
              have hA0 : (wr.alloc (.cells #[.string X, .string Y] 36)).cell? ⟨wr.heap.size, 0, none⟩ = some (.string X) := by simp
              have hA1 : (wr.alloc (.cells #[.string X, .string Y] 36)).cell? ⟨wr.heap.size, 1, none⟩ = some (.string Y) := by simp
              clear hat hTx hX hY hl
              obtain ⟨WA, hWA⟩ : ∃ WA, wr.alloc (.cells #[.string X, .string Y] 36) = WA := ⟨_, rfl⟩
              obtain ⟨B, hB⟩ : ∃ B, wr.heap.size = B := ⟨_, rfl⟩
              rw [hWA] at hA hA0 hA1
              rw [hB] at hA0 hA1
              have HWA := hid hWA
              have HBB := hid hB
              have hBlt : B < WA.heap.size := World.block_lt_of_cell? _ _ hA0
              have g0 : ∀ V, Below WA.heap.size WA V → V.cell? ⟨B, 0, none⟩ = some (.string X) := fun V hV => (hV.cell (p := ⟨B, 0, none⟩) hBlt).trans hA0
              have g1 : ∀ V, Below WA.heap.size WA V → V.cell? ⟨B, 1, none⟩ = some (.string Y) := fun V hV => (hV.cell (p := ⟨B, 1, none⟩) hBlt).trans hA1
              have p0 : ∀ V, Below WA.heap.size WA V → V.cell? ⟨P, 0, none⟩ = some (.slice a1 n1 c1) := fun V hV => h0 V (hA.out.trans (hV.mono hA.out.size))
              have p1 : ∀ V, Below WA.heap.size WA V → V.cell? ⟨P, 1, none⟩ = some (.slice (some ⟨blk, off, none⟩) n2 c2) := fun V hV => h1 V (hA.out.trans (hV.mono hA.out.size))
              have J1' : ∀ V, Below WA.heap.size WA V → Calls Tryd.prog 26 #[.slice a1 n1 c1, .string X] V fun e w' => e = .returned (.bool (es.contains l)) ∧ V = w' := fun V hV => J1 V (hA.out.trans (hV.mono hA.out.size))
              clear hBlt hA0 hA1 J1
              cases hp : es.contains l with
              | false =>
                have HF := hid (show r = false by rw [← HR.out]; exact ok_f3 (list_bad HLl.out (.inl (by rw [hHv, hp]; rfl))))
                rw [hp] at J1'
                have J1 := hid J1'
                clear hp hHv J1' J3 hI hWA hB
                go_wp2
                rw [HWA.out, HBB.out]
                have e0 : Below WA.heap.size WA WA := Below.refl _ _
                first
                  | (go_region_with
                      (first
                        | (go_at_call 26; with_reducible refine (J1.out _ e0.drew).mono ?_; rintro e v1 ⟨rfl, rfl⟩; have e1 := e0.drew)))
                  | fail
                all_goals go_wp2
                all_goals go_ret
                all_goals exact ⟨rchk_no HF.out, b0.out.trans ((hA.out.trans ((e0.drew).mono hA.out.size)).mono b0.out.size)⟩
              | true =>
                rw [hp] at J1'
                have J1 := hid J1'
                cases hq : attrB m with
                | false =>
                  have HF := hid (show r = false by rw [← HR.out]; exact ok_f3 (list_bad HLl.out (.inl (by rw [hHv, hp, hq]; rfl))))
                  rw [hq] at J3
                  have J3 := hid J3
                  clear hp hHv J1' hI hWA hB hq
                  go_wp2
                  rw [HWA.out, HBB.out]
                  have e0 : Below WA.heap.size WA WA := Below.refl _ _
                  go_region_held3 (fun w' => w'.cell? ⟨P, 0, none⟩ = some (.slice a1 n1 c1) ∧ w'.cell? ⟨B, 0, none⟩ = some (.string X) ∧ w'.cell? ⟨B, 1, none⟩ = some (.string Y) ∧ Below WA.heap.size WA w') (first | exact ⟨p0 _ e3, g0 _ e3, g1 _ e3, e3⟩ | exact ⟨p0 _ e2, g0 _ e2, g1 _ e2, e2⟩ | exact ⟨p0 _ e1, g0 _ e1, g1 _ e1, e1⟩ | exact ⟨p0 _ e0.drew, g0 _ e0.drew, g1 _ e0.drew, e0.drew⟩ | exact ⟨p0 _ e0, g0 _ e0, g1 _ e0, e0⟩)
                    (first
                      | (go_at_call 26; with_reducible refine (J1.out _ e0.drew).mono ?_; rintro e v1 ⟨rfl, rfl⟩; have e1 := e0.drew)
                      | (go_at_call 27; (with_reducible refine (J2.out _).mono ?_); rintro e v2 ⟨aa, rfl, hs2, k2⟩; have hs2 := hid hs2; have e2 := e1.trans (k2.mono e1.size))
                      | (go_at_call 26; with_reducible refine (J3.out _ _ hs2.out).mono ?_; rintro e v3 ⟨rfl, rfl⟩; have e3 := e2))
                  all_goals go_wp2
                  all_goals go_ret
                  all_goals exact ⟨rchk_no HF.out, b0.out.trans ((hA.out.trans ((e3).mono hA.out.size)).mono b0.out.size)⟩
                | true =>
                  have HHv := hid (show haveB es (l, m) = true by rw [hHv, hp, hq]; rfl)
                  rw [hq] at J3
                  have J3 := hid J3
                  have HA2 := hid (HB.out.below ((Below.refl _ _).alloc (Nat.le_refl _) (.cells #[.string X, .string Y] 36)))
                  clear hp hHv J1' hB hq
                  rw [hWA] at HA2
                  clear hWA
                  go_wp2
                  rw [HWA.out, HBB.out]
                  have e0 : Below WA.heap.size WA WA := Below.refl _ _
                  go_region_held3 (fun w' => w'.cell? ⟨P, 0, none⟩ = some (.slice a1 n1 c1) ∧ w'.cell? ⟨B, 0, none⟩ = some (.string X) ∧ w'.cell? ⟨B, 1, none⟩ = some (.string Y) ∧ Below WA.heap.size WA w') (first | exact ⟨p0 _ e3, g0 _ e3, g1 _ e3, e3⟩ | exact ⟨p0 _ e2, g0 _ e2, g1 _ e2, e2⟩ | exact ⟨p0 _ e1, g0 _ e1, g1 _ e1, e1⟩ | exact ⟨p0 _ e0.drew, g0 _ e0.drew, g1 _ e0.drew, e0.drew⟩ | exact ⟨p0 _ e0, g0 _ e0, g1 _ e0, e0⟩)
                    (first
                      | (go_at_call 26; with_reducible refine (J1.out _ e0.drew).mono ?_; rintro e v1 ⟨rfl, rfl⟩; have e1 := e0.drew)
                      | (go_at_call 27; (with_reducible refine (J2.out _).mono ?_); rintro e v2 ⟨aa, rfl, hs2, k2⟩; have hs2 := hid hs2; have e2 := e1.trans (k2.mono e1.size))
                      | (go_at_call 26; with_reducible refine (J3.out _ _ hs2.out).mono ?_; rintro e v3 ⟨rfl, rfl⟩; have e3 := e2))
                  all_goals go_wp2
                  all_goals
                    go_loopg [8] k (fun g mv wx => ∃ j : Nat, j + g = k ∧ mv = .int .i64 j ∧ Hid ((ats.take j).contains (l, m) = false) ∧ Below WA.heap.size WA wx)
                    case atStart => exact ⟨0, by omega, rfl, hid rfl, e3⟩
                    case round =>
                      clear e3
                      obtain ⟨j, hj, rfl, hIj, hx⟩ := hrel
                      by_cases hltj : j < k
                      · have d5 : decide (j < k) = true := decide_eq_true hltj
                        have hltJ : (j : Int) < (k : Int) := by omega
                        have hjn : (j : Int) < (n2 : Int) := by omega
                        obtain ⟨_, z0 | ⟨blk2, off2, ha2, hat2⟩⟩ := HA2.out
                        · omega
                        injection ha2 with ha2
                        injection ha2 with hb2 ho2 _
                        subst hb2 ho2
                        obtain ⟨⟨p, q⟩, hpq⟩ : ∃ z, ats[j]? = some z := ⟨_, List.getElem?_eq_getElem (by omega)⟩
                        obtain ⟨hc0, hc1⟩ := hat2 j _ hpq
                        simp only at hc0 hc1
                        have hc0 := (hx.cell (p := ⟨blk, off + j * 2, none⟩) (World.block_lt_of_cell? _ _ hc0)).trans hc0
                        have hc1 := (hx.cell (p := ⟨blk, off + j * 2 + 1, none⟩) (World.block_lt_of_cell? _ _ hc1)).trans hc1
                        by_cases hpl : p = l
                        · rw [hpl, HXx.out] at hc0
                          by_cases hqm : q = m
                          · rw [hqm, HYy.out] at hc1
                            have HF := hid (show r = false by rw [← HR.out]; exact ok_f3 (list_bad HLl.out (.inr (by rw [hpl, hqm] at hpq; exact take_mem hpq hltj))))
                            clear hpl hqm hat2 hpq hIj hI
                            go_wp2
                            go_region
                            go_wp2
                            go_ret
                            exact ⟨rchk_no HF.out, b0.out.trans ((hA.out.trans ((bel_drewN hx 1).mono hA.out.size)).mono b0.out.size)⟩
                          · have hne : ¬ (bs q).toList = Y.toList := fun e => hqm (bs_inj (HYy.out ▸ e))
                            have HN := hid (pair_next hIj.out hpq fun e => hqm (congrArg Prod.snd e))
                            clear hpl hqm hat2 hpq hIj
                            go_wp2
                            go_region
                            go_wp2
                            go_roundg (k - (j + 1))
                            case measure => omega
                            case rel => exact ⟨j + 1, by omega, by go_num, HN, bel_drewN hx 1⟩
                        · have hne : ¬ (bs p).toList = X.toList := fun e => hpl (bs_inj (HXx.out ▸ e))
                          have HN := hid (pair_next hIj.out hpq fun e => hpl (congrArg Prod.fst e))
                          clear hpl hat2 hpq hIj
                          go_wp2
                          go_region
                          go_wp2
                          go_roundg (k - (j + 1))
                          case measure => omega
                          case rel => exact ⟨j + 1, by omega, by go_num, HN, bel_drewN hx 1⟩
                      · have d5 : decide (j < k) = false := decide_eq_false hltj
                        have hltJ : ¬ (j : Int) < (k : Int) := by omega
                        have HN := hid (once_next hI.out HLl.out HHv.out (by rw [show k = j by omega]; exact hIj.out))
                        clear hIj hI
                        go_wp2
                        go_roundg (n2 - (k + 1))
                        case measure => omega
                        case rel => exact ⟨k + 1, by omega, by go_num, HN, hA.out.trans (hx.mono hA.out.size)⟩
            · have d4 : decide (k < n2) = false := decide_eq_false hlt
              have hltI : ¬ (k : Int) < (n2 : Int) := by omega
              have G3 := hid (show listB (haveB es) ats = true from list_ok (by have := HL2.out; omega) (by rw [← hI.out, List.take_of_length_le (by have := HL2.out; omega)]))
              clear hI
              go_wp2
              go_loopg [9] n3 (fun g iv wr => ∃ k : Nat, k + g = n3 ∧ iv = .int .i64 k ∧ Hid (onceB leadB (ss.take k) = true) ∧ Below W.heap.size W wr)
              case atStart => exact ⟨0, by omega, rfl, hid (once_nil _), hb⟩
              case round =>
                clear hb hlt d4 hltI hk
                obtain ⟨k, hk, rfl, hI, hb⟩ := hrel
                by_cases hlt : k < n3
                · have d4 : decide (k < n3) = true := decide_eq_true hlt
                  have hltI : (k : Int) < (n3 : Int) := by omega
                  have q1 : k ≤ c3 := by omega
                  have q2 : (k : Int) ≤ (c3 : Int) := by omega
                  have HB := hid (HP1.out.is3.below hb)
                  obtain ⟨_, z0 | ⟨blk, off, rfl, hat⟩⟩ := HB.out
                  · omega
                  have hkl : k < ss.length := by have := HL3.out; omega
                  obtain ⟨l, hl⟩ : ∃ l, ss[k]? = some l := ⟨_, List.getElem?_eq_getElem hkl⟩
                  have hcell : wr.cell? ⟨blk, off + k, none⟩ = some (.string (bs l)) := hat k _ hl
                  have K1 := fun W => rscheme_any l W (HP1.out.tx3 l (List.mem_of_getElem? hl))
                  have HIn := fun W (hW : IsS W (some ⟨blk, off, none⟩) k (ss.take k)) => in_any _ k c3 _ l W hW (by omega) (by omega) cm3
                  have HTk := hid (HB.out.take k (by omega))
                  generalize bs l = X at *
                  cases hp : leadB l with
                  | false =>
                    have HF := hid (show r = false by rw [← HR.out]; exact ok_f4 (list_bad hl (.inl hp)))
                    rw [hp] at K1
                    have K1 := hid K1
                    clear hp hl hat HIn hI
                    go_wp2_with fail
                    refine (K1.out _).mono ?_
                    rintro e v1 ⟨rfl, rfl⟩
                    go_wp2
                    go_quiet (fail)
                    go_wp2
                    go_ret
                    exact ⟨rchk_no HF.out, b0.out.trans ((bel_drewN hb _).mono b0.out.size)⟩
                  | true =>
                    rw [hp] at K1
                    have K1 := hid K1
                    cases hn : (ss.take k).contains l with
                    | true =>
                      have HF := hid (show r = false by rw [← HR.out]; exact ok_f4 (list_bad hl (.inr hn)))
                      rw [hn] at HIn
                      have HIn := hid HIn
                      clear hp hl hat hI hn
                      go_wp2_with fail
                      refine (K1.out _).mono ?_
                      rintro e v1 ⟨rfl, rfl⟩
                      go_wp2
                      go_quiet ((go_at_call 26; exact quietS (HIn.out _ (isS_drew HTk.out _))))
                      go_wp2
                      go_ret
                      exact ⟨rchk_no HF.out, b0.out.trans ((bel_drewN hb _).mono b0.out.size)⟩
                    | false =>
                      have HN := hid (once_next hI.out hl hp hn)
                      rw [hn] at HIn
                      have HIn := hid HIn
                      clear hp hl hat hI hn
                      go_wp2_with fail
                      refine (K1.out _).mono ?_
                      rintro e v1 ⟨rfl, rfl⟩
                      go_wp2
                      go_quiet ((go_at_call 26; exact quietS (HIn.out _ (isS_drew HTk.out _))))
                      go_wp2
                      go_roundg (n3 - (k + 1))
                      case measure => omega
                      case rel => exact ⟨k + 1, by omega, by go_num, HN, bel_drewN hb _⟩
                · have d4 : decide (k < n3) = false := decide_eq_false hlt
                  have hltI : ¬ (k : Int) < (n3 : Int) := by omega
                  have G4 := hid (show listB leadB ss = true from list_ok (by have := HL3.out; omega) (by rw [← hI.out, List.take_of_length_le (by have := HL3.out; omega)]))
                  have HF := hid (show r = true by rw [← HR.out]; exact ok_t G1.out G2.out G3.out G4.out)
                  clear hI
                  go_wp2
                  go_ret
                  exact ⟨rchk_yes HF.out, b0.out.trans (hb.mono b0.out.size)⟩
        · have m0 : ((n : Int) != 0) = true := by simp [hz]
          have m1 : ((n : Int) != 7) = false := by simp [hz]
          clear hz
          go_wp2
          go_loopg [6] n2 (fun g iv wr => ∃ k : Nat, k + g = n2 ∧ iv = .int .i64 k ∧ Hid (onceB (haveB es) (ats.take k) = true) ∧ Below W.heap.size W wr)
          case atStart => exact ⟨0, by omega, rfl, hid (once_nil _), hb⟩
          case round =>
            clear hb hlt d4 hltI hk hnk m0 m1
            obtain ⟨k, hk, rfl, hI, hb⟩ := hrel
            by_cases hlt : k < n2
            · have d4 : decide (k < n2) = true := decide_eq_true hlt
              have hltI : (k : Int) < (n2 : Int) := by omega
              have HB := hid (HP1.out.is2.below hb)
              obtain ⟨_, z0 | ⟨blk, off, rfl, hat⟩⟩ := HB.out
              · omega
              have hkl : k < ats.length := by have := HL2.out; omega
              obtain ⟨⟨l, m⟩, hl⟩ : ∃ z, ats[k]? = some z := ⟨_, List.getElem?_eq_getElem hkl⟩
              obtain ⟨hcell, hcell2⟩ := hat k _ hl
              simp only at hcell hcell2
              have hTx := HP1.out.tx2 _ (List.mem_of_getElem? hl)
              have J1 := fun V (hV : Below W.heap.size W V) => in_any a1 n1 c1 es l V (HP1.out.is1.below hV) (by omega) lc1 cm1
              have J2 := rattrs_any
              have J3 := fun (a : Addr) V (h : IsS V (some a) 14 attrN) => in_any (some a) 14 14 attrN m V h (by omega) (by omega) (by omega)
              rw [show attrN.contains m = attrB m from rfl] at J3
              have hHv : haveB es (l, m) = (es.contains l && attrB m) := rfl
              have HLl := hid hl
              have hA := hid (hb.alloc hb.size (.cells #[.string (bs l), .string (bs m)] 36))
              generalize hX : bs l = X at *
              generalize hY : bs m = Y at *
              have HXx := hid hX
              have HYy := hid hY
              have J2 := hid J2
              have hA0 : (wr.alloc (.cells #[.string X, .string Y] 36)).cell? ⟨wr.heap.size, 0, none⟩ = some (.string X) := by simp
              have hA1 : (wr.alloc (.cells #[.string X, .string Y] 36)).cell? ⟨wr.heap.size, 1, none⟩ = some (.string Y) := by simp
              clear hat hTx hX hY hl
              obtain ⟨WA, hWA⟩ : ∃ WA, wr.alloc (.cells #[.string X, .string Y] 36) = WA := ⟨_, rfl⟩
              obtain ⟨B, hB⟩ : ∃ B, wr.heap.size = B := ⟨_, rfl⟩
              rw [hWA] at hA hA0 hA1
              rw [hB] at hA0 hA1
              have HWA := hid hWA
              have HBB := hid hB
              have hBlt : B < WA.heap.size := World.block_lt_of_cell? _ _ hA0
              have g0 : ∀ V, Below WA.heap.size WA V → V.cell? ⟨B, 0, none⟩ = some (.string X) := fun V hV => (hV.cell (p := ⟨B, 0, none⟩) hBlt).trans hA0
              have g1 : ∀ V, Below WA.heap.size WA V → V.cell? ⟨B, 1, none⟩ = some (.string Y) := fun V hV => (hV.cell (p := ⟨B, 1, none⟩) hBlt).trans hA1
              have p0 : ∀ V, Below WA.heap.size WA V → V.cell? ⟨P, 0, none⟩ = some (.slice a1 n1 c1) := fun V hV => h0 V (hA.out.trans (hV.mono hA.out.size))
              have p1 : ∀ V, Below WA.heap.size WA V → V.cell? ⟨P, 1, none⟩ = some (.slice (some ⟨blk, off, none⟩) n2 c2) := fun V hV => h1 V (hA.out.trans (hV.mono hA.out.size))
              have J1' : ∀ V, Below WA.heap.size WA V → Calls Tryd.prog 26 #[.slice a1 n1 c1, .string X] V fun e w' => e = .returned (.bool (es.contains l)) ∧ V = w' := fun V hV => J1 V (hA.out.trans (hV.mono hA.out.size))
              clear hBlt hA0 hA1 J1
              cases hp : es.contains l with
              | false =>
                have HF := hid (show r = false by rw [← HR.out]; exact ok_f3 (list_bad HLl.out (.inl (by rw [hHv, hp]; rfl))))
                rw [hp] at J1'
                have J1 := hid J1'
                clear hp hHv J1' J3 hI hWA hB
                go_wp2
                rw [HWA.out, HBB.out]
                have e0 : Below WA.heap.size WA WA := Below.refl _ _
                first
                  | (go_region_with
                      (first
                        | (go_at_call 26; with_reducible refine (J1.out _ e0.drew).mono ?_; rintro e v1 ⟨rfl, rfl⟩; have e1 := e0.drew)))
                  | fail
                all_goals go_wp2
                all_goals go_ret
                all_goals exact ⟨rchk_no HF.out, b0.out.trans ((hA.out.trans ((e0.drew).mono hA.out.size)).mono b0.out.size)⟩
              | true =>
                rw [hp] at J1'
                have J1 := hid J1'
                cases hq : attrB m with
                | false =>
                  have HF := hid (show r = false by rw [← HR.out]; exact ok_f3 (list_bad HLl.out (.inl (by rw [hHv, hp, hq]; rfl))))
                  rw [hq] at J3
                  have J3 := hid J3
                  clear hp hHv J1' hI hWA hB hq
                  go_wp2
                  rw [HWA.out, HBB.out]
                  have e0 : Below WA.heap.size WA WA := Below.refl _ _
                  go_region_held3 (fun w' => w'.cell? ⟨P, 0, none⟩ = some (.slice a1 n1 c1) ∧ w'.cell? ⟨B, 0, none⟩ = some (.string X) ∧ w'.cell? ⟨B, 1, none⟩ = some (.string Y) ∧ Below WA.heap.size WA w') (first | exact ⟨p0 _ e3, g0 _ e3, g1 _ e3, e3⟩ | exact ⟨p0 _ e2, g0 _ e2, g1 _ e2, e2⟩ | exact ⟨p0 _ e1, g0 _ e1, g1 _ e1, e1⟩ | exact ⟨p0 _ e0.drew, g0 _ e0.drew, g1 _ e0.drew, e0.drew⟩ | exact ⟨p0 _ e0, g0 _ e0, g1 _ e0, e0⟩)
                    (first
                      | (go_at_call 26; with_reducible refine (J1.out _ e0.drew).mono ?_; rintro e v1 ⟨rfl, rfl⟩; have e1 := e0.drew)
                      | (go_at_call 27; (with_reducible refine (J2.out _).mono ?_); rintro e v2 ⟨aa, rfl, hs2, k2⟩; have hs2 := hid hs2; have e2 := e1.trans (k2.mono e1.size))
                      | (go_at_call 26; with_reducible refine (J3.out _ _ hs2.out).mono ?_; rintro e v3 ⟨rfl, rfl⟩; have e3 := e2))
                  all_goals go_wp2
                  all_goals go_ret
                  all_goals exact ⟨rchk_no HF.out, b0.out.trans ((hA.out.trans ((e3).mono hA.out.size)).mono b0.out.size)⟩
                | true =>
                  have HHv := hid (show haveB es (l, m) = true by rw [hHv, hp, hq]; rfl)
                  rw [hq] at J3
                  have J3 := hid J3
                  have HA2 := hid (HB.out.below ((Below.refl _ _).alloc (Nat.le_refl _) (.cells #[.string X, .string Y] 36)))
                  clear hp hHv J1' hB hq
                  rw [hWA] at HA2
                  clear hWA
                  go_wp2
                  rw [HWA.out, HBB.out]
                  have e0 : Below WA.heap.size WA WA := Below.refl _ _
                  go_region_held3 (fun w' => w'.cell? ⟨P, 0, none⟩ = some (.slice a1 n1 c1) ∧ w'.cell? ⟨B, 0, none⟩ = some (.string X) ∧ w'.cell? ⟨B, 1, none⟩ = some (.string Y) ∧ Below WA.heap.size WA w') (first | exact ⟨p0 _ e3, g0 _ e3, g1 _ e3, e3⟩ | exact ⟨p0 _ e2, g0 _ e2, g1 _ e2, e2⟩ | exact ⟨p0 _ e1, g0 _ e1, g1 _ e1, e1⟩ | exact ⟨p0 _ e0.drew, g0 _ e0.drew, g1 _ e0.drew, e0.drew⟩ | exact ⟨p0 _ e0, g0 _ e0, g1 _ e0, e0⟩)
                    (first
                      | (go_at_call 26; with_reducible refine (J1.out _ e0.drew).mono ?_; rintro e v1 ⟨rfl, rfl⟩; have e1 := e0.drew)
                      | (go_at_call 27; (with_reducible refine (J2.out _).mono ?_); rintro e v2 ⟨aa, rfl, hs2, k2⟩; have hs2 := hid hs2; have e2 := e1.trans (k2.mono e1.size))
                      | (go_at_call 26; with_reducible refine (J3.out _ _ hs2.out).mono ?_; rintro e v3 ⟨rfl, rfl⟩; have e3 := e2))
                  all_goals go_wp2
                  all_goals
                    go_loopg [8] k (fun g mv wx => ∃ j : Nat, j + g = k ∧ mv = .int .i64 j ∧ Hid ((ats.take j).contains (l, m) = false) ∧ Below WA.heap.size WA wx)
                    case atStart => exact ⟨0, by omega, rfl, hid rfl, e3⟩
                    case round =>
                      clear e3
                      obtain ⟨j, hj, rfl, hIj, hx⟩ := hrel
                      by_cases hltj : j < k
                      · have d5 : decide (j < k) = true := decide_eq_true hltj
                        have hltJ : (j : Int) < (k : Int) := by omega
                        have hjn : (j : Int) < (n2 : Int) := by omega
                        obtain ⟨_, z0 | ⟨blk2, off2, ha2, hat2⟩⟩ := HA2.out
                        · omega
                        injection ha2 with ha2
                        injection ha2 with hb2 ho2 _
                        subst hb2 ho2
                        obtain ⟨⟨p, q⟩, hpq⟩ : ∃ z, ats[j]? = some z := ⟨_, List.getElem?_eq_getElem (by omega)⟩
                        obtain ⟨hc0, hc1⟩ := hat2 j _ hpq
                        simp only at hc0 hc1
                        have hc0 := (hx.cell (p := ⟨blk, off + j * 2, none⟩) (World.block_lt_of_cell? _ _ hc0)).trans hc0
                        have hc1 := (hx.cell (p := ⟨blk, off + j * 2 + 1, none⟩) (World.block_lt_of_cell? _ _ hc1)).trans hc1
                        by_cases hpl : p = l
                        · rw [hpl, HXx.out] at hc0
                          by_cases hqm : q = m
                          · rw [hqm, HYy.out] at hc1
                            have HF := hid (show r = false by rw [← HR.out]; exact ok_f3 (list_bad HLl.out (.inr (by rw [hpl, hqm] at hpq; exact take_mem hpq hltj))))
                            clear hpl hqm hat2 hpq hIj hI
                            go_wp2
                            go_region
                            go_wp2
                            go_ret
                            exact ⟨rchk_no HF.out, b0.out.trans ((hA.out.trans ((bel_drewN hx 1).mono hA.out.size)).mono b0.out.size)⟩
                          · have hne : ¬ (bs q).toList = Y.toList := fun e => hqm (bs_inj (HYy.out ▸ e))
                            have HN := hid (pair_next hIj.out hpq fun e => hqm (congrArg Prod.snd e))
                            clear hpl hqm hat2 hpq hIj
                            go_wp2
                            go_region
                            go_wp2
                            go_roundg (k - (j + 1))
                            case measure => omega
                            case rel => exact ⟨j + 1, by omega, by go_num, HN, bel_drewN hx 1⟩
                        · have hne : ¬ (bs p).toList = X.toList := fun e => hpl (bs_inj (HXx.out ▸ e))
                          have HN := hid (pair_next hIj.out hpq fun e => hpl (congrArg Prod.fst e))
                          clear hpl hat2 hpq hIj
                          go_wp2
                          go_region
                          go_wp2
                          go_roundg (k - (j + 1))
                          case measure => omega
                          case rel => exact ⟨j + 1, by omega, by go_num, HN, bel_drewN hx 1⟩
                      · have d5 : decide (j < k) = false := decide_eq_false hltj
                        have hltJ : ¬ (j : Int) < (k : Int) := by omega
                        have HN := hid (once_next hI.out HLl.out HHv.out (by rw [show k = j by omega]; exact hIj.out))
                        clear hIj hI
                        go_wp2
                        go_roundg (n2 - (k + 1))
                        case measure => omega
                        case rel => exact ⟨k + 1, by omega, by go_num, HN, hA.out.trans (hx.mono hA.out.size)⟩
            · have d4 : decide (k < n2) = false := decide_eq_false hlt
              have hltI : ¬ (k : Int) < (n2 : Int) := by omega
              have G3 := hid (show listB (haveB es) ats = true from list_ok (by have := HL2.out; omega) (by rw [← hI.out, List.take_of_length_le (by have := HL2.out; omega)]))
              clear hI
              go_wp2
              go_loopg [9] n3 (fun g iv wr => ∃ k : Nat, k + g = n3 ∧ iv = .int .i64 k ∧ Hid (onceB leadB (ss.take k) = true) ∧ Below W.heap.size W wr)
              case atStart => exact ⟨0, by omega, rfl, hid (once_nil _), hb⟩
              case round =>
                clear hb hlt d4 hltI hk
                obtain ⟨k, hk, rfl, hI, hb⟩ := hrel
                by_cases hlt : k < n3
                · have d4 : decide (k < n3) = true := decide_eq_true hlt
                  have hltI : (k : Int) < (n3 : Int) := by omega
                  have q1 : k ≤ c3 := by omega
                  have q2 : (k : Int) ≤ (c3 : Int) := by omega
                  have HB := hid (HP1.out.is3.below hb)
                  obtain ⟨_, z0 | ⟨blk, off, rfl, hat⟩⟩ := HB.out
                  · omega
                  have hkl : k < ss.length := by have := HL3.out; omega
                  obtain ⟨l, hl⟩ : ∃ l, ss[k]? = some l := ⟨_, List.getElem?_eq_getElem hkl⟩
                  have hcell : wr.cell? ⟨blk, off + k, none⟩ = some (.string (bs l)) := hat k _ hl
                  have K1 := fun W => rscheme_any l W (HP1.out.tx3 l (List.mem_of_getElem? hl))
                  have HIn := fun W (hW : IsS W (some ⟨blk, off, none⟩) k (ss.take k)) => in_any _ k c3 _ l W hW (by omega) (by omega) cm3
                  have HTk := hid (HB.out.take k (by omega))
                  generalize bs l = X at *
                  cases hp : leadB l with
                  | false =>
                    have HF := hid (show r = false by rw [← HR.out]; exact ok_f4 (list_bad hl (.inl hp)))
                    rw [hp] at K1
                    have K1 := hid K1
                    clear hp hl hat HIn hI
                    go_wp2_with fail
                    refine (K1.out _).mono ?_
                    rintro e v1 ⟨rfl, rfl⟩
                    go_wp2
                    go_quiet (fail)
                    go_wp2
                    go_ret
                    exact ⟨rchk_no HF.out, b0.out.trans ((bel_drewN hb _).mono b0.out.size)⟩
                  | true =>
                    rw [hp] at K1
                    have K1 := hid K1
                    cases hn : (ss.take k).contains l with
                    | true =>
                      have HF := hid (show r = false by rw [← HR.out]; exact ok_f4 (list_bad hl (.inr hn)))
                      rw [hn] at HIn
                      have HIn := hid HIn
                      clear hp hl hat hI hn
                      go_wp2_with fail
                      refine (K1.out _).mono ?_
                      rintro e v1 ⟨rfl, rfl⟩
                      go_wp2
                      go_quiet ((go_at_call 26; exact quietS (HIn.out _ (isS_drew HTk.out _))))
                      go_wp2
                      go_ret
                      exact ⟨rchk_no HF.out, b0.out.trans ((bel_drewN hb _).mono b0.out.size)⟩
                    | false =>
                      have HN := hid (once_next hI.out hl hp hn)
                      rw [hn] at HIn
                      have HIn := hid HIn
                      clear hp hl hat hI hn
                      go_wp2_with fail
                      refine (K1.out _).mono ?_
                      rintro e v1 ⟨rfl, rfl⟩
                      go_wp2
                      go_quiet ((go_at_call 26; exact quietS (HIn.out _ (isS_drew HTk.out _))))
                      go_wp2
                      go_roundg (n3 - (k + 1))
                      case measure => omega
                      case rel => exact ⟨k + 1, by omega, by go_num, HN, bel_drewN hb _⟩
                · have d4 : decide (k < n3) = false := decide_eq_false hlt
                  have hltI : ¬ (k : Int) < (n3 : Int) := by omega
                  have G4 := hid (show listB leadB ss = true from list_ok (by have := HL3.out; omega) (by rw [← hI.out, List.take_of_length_le (by have := HL3.out; omega)]))
                  have HF := hid (show r = true by rw [← HR.out]; exact ok_t G1.out G2.out G3.out G4.out)
                  clear hI
                  go_wp2
                  go_ret
                  exact ⟨rchk_yes HF.out, b0.out.trans (hb.mono b0.out.size)⟩
      · have m0 : ((n : Int) != 0) = true := by simp; omega
        have m1 : ((n : Int) != 7) = true := by simp; omega
        have HF := hid (show r = false by
          rw [← HR.out]
          refine ok_f2 ?_
          unfold wholeB
          rw [GT.out, show (n == 0) = false by simp; omega, show (n == 7) = false by simp; omega]
          rfl)
        clear hz
        go_wp2
        go_ret
        exact ⟨rchk_no HF.out, b0.out.trans (hb.mono b0.out.size)⟩
end Go.Proofs.YtpheaepifjcmiaaDoor
