/- Walks: the statement DomBack of layer 10, over what the program's tree is known to do. Written by tools/gen_domback.py. -/
import Derived.Test.YthbklcpjbeelhaaDomOwn
import Derived.Test.YthbklcpjbeelhaaTreeBack
import Derived.Test.YthbklcpjbeelhaaNodeArg
namespace Go.Proofs.Ythbklcpjbeelhaa
open Go.RowKit Go.Lib
set_option maxRecDepth 100000
set_option linter.unusedVariables false

/-- A stretch of a list of nodes. -/
theorem IsN.slice {S : Nat → Prop} {d : Nat} {w : World} {b off n : Nat} {ns : List Dom.N} (h : IsN S (d + 1) w (some ⟨b, off, none⟩) n ns) (i m : Nat) (hi : i + m ≤ n) : IsN S (d + 1) w (some ⟨b, off + i * 6, none⟩) m ((ns.drop i).take m) := by
  refine ⟨by rw [List.length_take, List.length_drop, h.1]; omega, ?_⟩
  by_cases h0 : m = 0
  · exact .inl h0
  obtain ⟨b', off', e, hS, hat⟩ := h.2.resolve_left (by omega)
  obtain ⟨rfl, rfl⟩ : b = b' ∧ off = off' := by cases e; exact ⟨rfl, rfl⟩
  refine .inr ⟨b, off + i * 6, rfl, hS, fun k x hx => ?_⟩
  have hk : k < m := by have := (List.getElem?_eq_some_iff.1 hx).1; rw [List.length_take] at this; omega
  rw [List.getElem?_take_of_lt hk, List.getElem?_drop] at hx
  have := hat (i + k) x hx
  rwa [show off + i * 6 + k * 6 = off + (i + k) * 6 by omega]
theorem wrap_nat {n : Nat} (h : n < 9223372036854775808) : IntKind.i64.wrap ((n : Nat) : Int) = (n : Int) := by
  unfold IntKind.wrap
  simp [IntKind.signed, IntKind.bits]
  omega
/-- A list that was told: its stretch of blocks, where it lies, what it says. -/
structure DL where
  lo : Nat
  hi : Nat
  a : Option Addr
  n : Nat
  ns : List Dom.N
def AllL (d : Nat) (w : World) (S : Nat → Prop) (ls : List DL) : Prop := ∀ l ∈ ls, IsD d w l.lo l.hi l.a l.n l.ns ∧ l.hi ≤ w.heap.size ∧ Off S l.lo l.hi
theorem AllL.turn {d : Nat} {w w' : World} {S S' : Nat → Prop} {ls : List DL} (h : AllL d w S ls) (hT : Turn S S' w w') : AllL d w' S' ls := fun l hl => by
  obtain ⟨h1, h2, h3⟩ := h l hl
  refine ⟨h1.keep fun k q1 q2 => hT.block k (by omega) fun e => h3 k e ⟨q1, q2⟩, Nat.le_trans h2 hT.size, fun k hk q => ?_⟩
  rcases hT.sub k hk with e | e
  · exact h3 k e q
  · omega
theorem AllL.below {d : Nat} {w w' : World} {S : Nat → Prop} {ls : List DL} (h : AllL d w S ls) (hb : Below w.heap.size w w') : AllL d w' S ls := fun l hl => by
  obtain ⟨h1, h2, h3⟩ := h l hl
  exact ⟨h1.keep fun k q1 q2 => hb.block k (by omega), Nat.le_trans h2 hb.size, h3⟩
/-- The tree is t, the lists stand. -/
def St (P : World → Nat → Nat → (Nat → Prop) → Dom.T → Prop) (w0 w : World) (R d : Nat) (t : Dom.T) (ls : List DL) : Prop := Below w0.heap.size w0 w ∧ ∃ S, P w w0.heap.size R S t ∧ AllL d w S ls
theorem st_turn {EW : World → Prop} {P : World → Nat → Nat → (Nat → Prop) → Dom.T → Prop} (HC : DomC EW P) {w0 w w' : World} {R d : Nat} {t u : Dom.T} {S : Nat → Prop} {ls : List DL} (h1 : Below w0.heap.size w0 w) (h2 : P w w0.heap.size R S t) (h3 : AllL d w S ls) (hT : TurnedP P w w' w0.heap.size R S u) : St P w0 w' R d u ls := by
  obtain ⟨S', g1, g2⟩ := hT
  exact ⟨g2.below h1 h1.size fun k hk => (HC.inb h2 k hk).1, S', g1, h3.turn g2⟩
theorem st_whole {EW : World → Prop} {P : World → Nat → Nat → (Nat → Prop) → Dom.T → Prop} (HC : DomC EW P) {w0 w w' : World} {R d : Nat} {t : Dom.T} {ls : List DL} {a : Option Addr} {n : Nat} {ns : List Dom.N} (h : St P w0 w R d t ls) (hD : IsD d w' w.heap.size w'.heap.size a n ns) (hb : Below w.heap.size w w') : St P w0 w' R d t (⟨w.heap.size, w'.heap.size, a, n, ns⟩ :: ls) := by
  obtain ⟨h1, S, h2, h3⟩ := h
  refine ⟨h1.trans (hb.mono h1.size), S, HC.below h2 hb, fun l hl => ?_⟩
  rcases List.mem_cons.1 hl with rfl | hl
  · exact ⟨hD, Nat.le_refl _, fun k hk q => by have q1 := (HC.inb h2 k hk).2; have q2 : w.heap.size ≤ k := q.1; omega⟩
  · exact h3.below hb l hl
theorem st_below {EW : World → Prop} {P : World → Nat → Nat → (Nat → Prop) → Dom.T → Prop} (HC : DomC EW P) {w0 w w' : World} {R d : Nat} {t : Dom.T} {ls : List DL} (h : St P w0 w R d t ls) (hb : Below w.heap.size w w') : St P w0 w' R d t ls := by
  obtain ⟨h1, S, h2, h3⟩ := h
  exact ⟨h1.trans (hb.mono h1.size), S, HC.below h2 hb, h3.below hb⟩
theorem St.isN {P : World → Nat → Nat → (Nat → Prop) → Dom.T → Prop} {w0 w : World} {R d : Nat} {t : Dom.T} {ls : List DL} (h : St P w0 w R d t ls) (l : DL) (hl : l ∈ ls) : IsN (fun k => l.lo ≤ k ∧ k < l.hi) d w l.a l.n l.ns := by
  obtain ⟨_, S, _, h3⟩ := h
  exact (h3 l hl).1.isN
/-- One node without kids weighs little. -/
theorem sumW_bare (d : Nat) (x : Dom.N) : Dom.sumW (d + 1) [Dom.bareP x] ≤ Dom.cost x := by
  have hk : (Dom.bareP x).kids = [] := by unfold Dom.bareP; split <;> rfl
  have h0 : Dom.sumW d (Dom.bareP x).kids = 0 := by rw [hk]; cases d <;> rfl
  have h1 : Dom.sumW (d + 1) [Dom.bareP x] = (1 + (Dom.bareP x).text.length / 8 + (Dom.bareP x).name.length / 8) + Dom.sumA (Dom.bareP x).atts + Dom.sumW d (Dom.bareP x).kids + 0 := rfl
  have h2 := cost_bare x
  unfold Dom.cost at h2
  unfold Dom.cost
  omega
theorem take_one (l : List Dom.N) (y z : Dom.N) : ((l ++ [y, z]).drop l.length).take 1 = [y] := by rw [List.drop_left]; rfl
theorem drop_one (l : List Dom.N) (y z : Dom.N) : ((l ++ [y, z]).drop (l.length + 1)).take 1 = [z] := by
  have : l ++ [y, z] = (l ++ [y]) ++ [z] := by rw [List.append_assoc]; rfl
  rw [this, List.drop_append_of_le_length (by rw [List.length_append]; exact Nat.le_refl _)]
  have h : (l ++ [y]).drop (l.length + 1) = [] := List.drop_of_length_le (by rw [List.length_append]; exact Nat.le_refl _)
  rw [h]
  rfl

set_option maxHeartbeats 32000000 in
theorem dback_any {EW : World → Prop} {P : World → Nat → Nat → (Nat → Prop) → Dom.T → Prop} (HC : DomC EW P) (HKN : DomKnownC EW) (HS : DomSameC EW) (HK : KeepsW EW) (d : Nat) (os : List DOp) (a : Option Addr) (n c : Nat) (x : Dom.N) (aa : Option Addr) (an ac : Nat) (ka : Option Addr) (kn kc : Nat) (w : World) (hT : EW w) (h : IsOps d w a n os) (hf : ∀ x ∈ os, opFits d x) (hn : n ≤ 9223372036854775807)
    (hA : IsA w aa an x.atts) (hKi : IsN (fun _ => True) d w ka kn x.kids) (hnil : aa = none → ac = 0) (hknil : ka = none → kc = 0) (hx : nodeFits d x) :
    Calls Try.prog 6 #[.slice a n c, .agg #[.int .u8 x.kind, .int .u8 x.space, .string (bs x.name), .slice aa an ac, .string (bs x.text), .slice ka kn kc]] w fun e w' => e = .returned (.bool true) ∧ Below w.heap.size w w' := by
  obtain ⟨NM, hNM⟩ : ∃ NM, bs x.name = NM := ⟨_, rfl⟩
  obtain ⟨TX, hTX⟩ : ∃ TX, bs x.text = TX := ⟨_, rfl⟩
  obtain ⟨K, hK⟩ : ∃ K, x.kind = K := ⟨_, rfl⟩
  obtain ⟨SP, hSP⟩ : ∃ SP, x.space = SP := ⟨_, rfl⟩
  rw [hNM, hTX, hK, hSP]
  have HV := hid (And.intro hNM (And.intro hTX (And.intro hK hSP)))
  have al := (Below.refl w.heap.size w).alloc (Nat.le_refl _) (.cells #[.int .u8 K, .int .u8 SP, .string NM, .slice aa an ac, .string TX, .slice ka kn kc] 32)
  have NB := BlkW.new w #[.int .u8 K, .int .u8 SP, .string NM, .slice aa an ac, .string TX, .slice ka kn kc] 32
  have hA1 := hA.below al
  have hK1 := hKi.below al
  have h1 := h.below al
  have hT1 := HK _ _ hT al
  obtain ⟨W1, hW1⟩ : ∃ W1, w.alloc (.cells #[.int .u8 K, .int .u8 SP, .string NM, .slice aa an ac, .string TX, .slice ka kn kc] 32) = W1 := ⟨_, rfl⟩
  rw [hW1] at al NB hA1 hK1 h1 hT1
  have HW1 := hid hW1
  have HAL := hid al
  have HNB := hid NB
  have HT := hid hT1
  have HKE := hid HK
  have HKK := hid HKN
  have HCC := hid HC
  have HSS := hid HS
  have HH := hid h1
  have HF := hid hf
  have HXX := hid (And.intro hA1 (And.intro hK1 (And.intro hnil (And.intro hknil hx))))
  have HV0 := heavy_any d os a n c W1 h1 hf hn
  have HL0 := @heavyW_light d os n
  obtain ⟨Hv, hHv⟩ : ∃ Hv, heavyW d n os = Hv := ⟨_, rfl⟩
  rw [hHv] at HV0 HL0
  have b0 := NB.cell 0
  have b1 := NB.cell 1
  have b2 := NB.cell 2
  have b3 := NB.cell 3
  have b4 := NB.cell 4
  have b5 := NB.cell 5
  simp only [List.getElem?_toArray, List.getElem?_cons_zero, List.getElem?_cons_succ] at b0 b1 b2 b3 b4 b5
  clear NB al hA1 hK1 h1 hT1 hW1 hNM hTX hK hSP
  by_cases hh : 600 < Hv ∨ 150 < n
  · rw [show (decide (600 < Hv) || decide (150 < n)) = true by simpa using hh] at HV0
    have HV0 := hid HV0
    clear HL0 hHv hT h hf HC HKN HK HS hh hA hKi hx
    go_enter Try.func6, Try.ntmps6
    go_wp2_with fail
    rw [HW1.out]
    refine (HV0.out).mono ?_
    rintro e w1 ⟨rfl, b1⟩
    have B1 := hid b1
    clear b1
    go_wp2_with fail
    refine (HKK.out _ (HKE.out _ _ HT.out B1.out)).mono ?_
    rintro e w2 ⟨rfl, b2⟩
    have B2 := hid (B1.out.trans (b2.mono B1.out.size))
    clear b2
    go_wp2
    go_ret
    exact ⟨rfl, HAL.out.trans (B2.out.mono HAL.out.size)⟩
  · rw [show (decide (600 < Hv) || decide (150 < n)) = false by simpa using hh] at HV0
    have HV0 := hid HV0
    have hH6 : Hv ≤ 600 := by omega
    have hn150 : n ≤ 150 := by omega
    have HLI := hid (show ∀ x ∈ os, Dom.sumW (d + 1) [x.n] ≤ 600 from fun x hx => by
      have h1 := HL0 hH6
      have h2 : Dom.sumW (d + 1) [x.n] ≤ (os.map fun o => Dom.sumW (d + 1) [o.n]).sum := sum_ge (fun o => Dom.sumW (d + 1) [o.n]) hx
      omega)
    have HWT := hid fun W (hb : Below W1.heap.size W1 W) => weigh_any (d + 1) (fun _ => True) [x] (some ⟨W.heap.size, 0, none⟩) 1 1 0 600 _ (isN_one (w := W) (HXX.out.1.below hb) (HXX.out.2.1.below hb) hnil hknil) (show Dom.okL 9223372036854775807 (d + 1) [x] from fun y hy => by
      obtain rfl := List.mem_singleton.1 hy
      exact hx) (by omega) (by omega)
    rw [HV.out.1, HV.out.2.1, HV.out.2.2.1, HV.out.2.2.2] at HWT
    have hws := Dom.wtL_sum 600 (d + 1) 0 [x]
    obtain ⟨WX, hWX⟩ : ∃ WX, Dom.wtL 600 (d + 1) 0 [x] = WX := ⟨_, rfl⟩
    rw [hWX] at HWT hws
    clear HL0 hHv hT h hf HKN HK HS hh hH6 HC hA hKi hWX
    have HC := HCC
    clear HCC
    by_cases hwx : 600 < WX
    · have d1 : decide ((600 : Int) < (WX : Int)) = true := by simp; omega
      have d1n : decide (600 < WX) = true := decide_eq_true hwx
      clear hx hws
      go_enter Try.func6, Try.ntmps6
      go_wp2_with fail
      rw [HW1.out]
      refine (HV0.out).mono ?_
      rintro e w1 ⟨rfl, q1⟩
      have B1 := hid q1
      have n0 := cell_up b0 q1
      have n1 := cell_up b1 q1
      have n2 := cell_up b2 q1
      have n3 := cell_up b3 q1
      have n4 := cell_up b4 q1
      have n5 := cell_up b5 q1
      have al1 := hid (q1.alloc q1.size (.cells #[.int .u8 K, .int .u8 SP, .string NM, .slice aa an ac, .string TX, .slice ka kn kc] 32))
      clear q1
      go_wp2_with fail
      refine (HWT.out w1 B1.out).mono ?_
      rintro e w2 ⟨rfl, q2⟩
      have B2 := hid (al1.out.trans (q2.mono al1.out.size))
      clear q2
      go_wp2_with fail
      refine (HKK.out _ (HKE.out _ _ HT.out B2.out)).mono ?_
      rintro e w3 ⟨rfl, q3⟩
      have B3 := hid (B2.out.trans (q3.mono B2.out.size))
      clear q3
      go_wp2
      go_ret
      exact ⟨rfl, HAL.out.trans (B3.out.mono HAL.out.size)⟩
    · have d1 : decide ((600 : Int) < (WX : Int)) = false := by simp; omega
      have d1n : decide (600 < WX) = false := decide_eq_false hwx
      have hcx := hws (by omega)
      have hcost : Dom.cost x ≤ 600 := by
        have h1 : Dom.sumW (d + 1) [x] = (1 + x.text.length / 8 + x.name.length / 8) + Dom.sumA x.atts + Dom.sumW d x.kids + 0 := rfl
        unfold Dom.cost
        omega
      clear hx hws hcx
      go_enter Try.func6, Try.ntmps6
      go_wp2_with fail
      rw [HW1.out]
      refine (HV0.out).mono ?_
      rintro e w1 ⟨rfl, q1⟩
      have B1 := hid q1
      have n0 := cell_up b0 q1
      have n1 := cell_up b1 q1
      have n2 := cell_up b2 q1
      have n3 := cell_up b3 q1
      have n4 := cell_up b4 q1
      have n5 := cell_up b5 q1
      have al1 := hid (q1.alloc q1.size (.cells #[.int .u8 K, .int .u8 SP, .string NM, .slice aa an ac, .string TX, .slice ka kn kc] 32))
      clear q1
      go_wp2_with fail
      refine (HWT.out w1 B1.out).mono ?_
      rintro e w2 ⟨rfl, q2⟩
      have B2 := hid (al1.out.trans (q2.mono al1.out.size))
      clear q2 n0 n1 n2 n3 n4 n5
      go_wp2_with fail
      refine (HKK.out _ (HKE.out _ _ HT.out B2.out)).mono ?_
      rintro e w3 ⟨rfl, q3⟩
      have B3 := hid (B2.out.trans (q3.mono B2.out.size))
      clear q3
      go_wp2_with fail
      refine (HC.out.new _ W1.heap.size (HKE.out _ _ HT.out B3.out) B3.out.size).mono ?_
      rintro e w4 ⟨R1, rfl, hN⟩
      have H0 := hid (one_new B3.out hN)
      clear hN
      go_wp2
      go_loopg [6] n (fun g iv wr => ∃ (j : Nat) (t : Dom.T), j + g = n ∧ iv = .int .i64 j ∧ Hid (One P W1 wr R1 t) ∧ Hid (Dom.Good t) ∧ Hid (Bnd t (j + 1) 1000))
      case atStart => exact ⟨0, Dom.tNew, by omega, rfl, H0, hid Dom.good_new, hid (bnd_new.wide (by omega) (by omega))⟩
      case round =>
        clear H0
        obtain ⟨j, t, hj, rfl, hOn, hGo, hBn⟩ := hrel
        by_cases hlt : j < n
        · have d1 : decide (j < n) = true := decide_eq_true hlt
          have hltI : (j : Int) < (n : Int) := by omega
          have hj150 : j < 150 := by omega
          obtain ⟨y, hx⟩ : ∃ x, os[j]? = some x := ⟨_, List.getElem?_eq_getElem (by have := HH.out.1; omega)⟩
          have hxm := List.mem_of_getElem? hx
          obtain ⟨b, off, rfl, hat⟩ := HH.out.2.resolve_left (by omega)
          obtain ⟨aa', an', ac', ka', kn', kc', X⟩ := hat j y hx
          obtain ⟨hb1, S1, hP1⟩ := hOn.out
          have XB := X.below hb1
          have hcx : Dom.sumW (d + 1) [y.n] ≤ 600 := HLI.out y hxm
          have hcost' : Dom.cost y.n ≤ 600 := by
            have h1 : Dom.sumW (d + 1) [y.n] = (1 + y.n.text.length / 8 + y.n.name.length / 8) + Dom.sumA y.n.atts + Dom.sumW d y.n.kids + 0 := rfl
            unfold Dom.cost
            omega
          have hfa := (HF.out y hxm).2.2.2.2.1
          have x1 := XB.nd.c0
          have x2 := XB.nd.c1
          have x3 := XB.nd.c2
          have x4 := XB.nd.c3
          have x5 := XB.nd.c4
          have x6 := XB.nd.c5
          have hA0 := hid X.a7
          have hfit := hBn.out.fit (by omega) (by omega)
          have HC1 := hid (HC.out.make wr W1.heap.size R1 S1 t y.n aa' an' ac' ka' kn' kc' (HKE.out _ _ HT.out hb1) hP1 hGo.out hfit hb1.size XB.nd.atts XB.nd.anil (by omega))
          have hGd := Dom.good_make hGo.out y.n
          have hBd := bnd_make hBn.out y.n (by omega)
          obtain ⟨PT, hPT⟩ : ∃ PT, Dom.makeT t y.n = PT := ⟨_, rfl⟩
          rw [hPT] at HC1 hGd hBd
          obtain ⟨t2, id⟩ := PT
          obtain ⟨A, hA⟩ : ∃ A, y.a = A := ⟨_, rfl⟩
          rw [hA] at hA0 hfa
          obtain ⟨m, hm⟩ : ∃ m : Nat, max A 0 = (m : Int) := ⟨(max A 0).toNat, by omega⟩
          have hmb : m ≤ 9223372036854775807 := by omega
          obtain ⟨q, hq⟩ : ∃ q : Nat, q = m % (j + 1) := ⟨_, rfl⟩
          have e1 : (m : Int).tmod ((j : Int) + 1) = (q : Int) := by
            rw [Int.tmod_eq_emod_of_nonneg (by omega), hq, show ((j : Int) + 1) = ((j + 1 : Nat) : Int) by omega]
            first | exact (Int.natCast_emod m (j + 1)).symm | exact (Int.ofNat_emod m (j + 1)).symm | rfl
          have e2 : ¬ (j : Int) + 1 = 0 := by omega
          obtain ⟨NM', hNM⟩ : ∃ NM', bs y.n.name = NM' := ⟨_, rfl⟩
          obtain ⟨TX', hTX⟩ : ∃ TX', bs y.n.text = TX' := ⟨_, rfl⟩
          obtain ⟨K', hK⟩ : ∃ K', y.n.kind = K' := ⟨_, rfl⟩
          obtain ⟨SP', hSP⟩ : ∃ SP', y.n.space = SP' := ⟨_, rfl⟩
          rw [hNM, hTX, hK, hSP] at HC1
          rw [hK] at x1
          rw [hSP] at x2
          rw [hNM] at x3
          rw [hTX] at x5
          have HON := hid fun w2 (hT1 : TurnedP P wr w2 W1.heap.size R1 S1 t2) => one_mk HC.out hb1 hP1 hT1
          have HGd := hid hGd
          have HBd := hid hBd
          clear hx hxm hat X XB hcx hcost' hb1 hP1 hfit hPT hGd hBd hA hq hNM hTX hK hSP
          go_wp2_with fail
          refine (HC1.out).mono ?_
          rintro e w2 ⟨rfl, hT1⟩
          have HO2 := hid (HON.out w2 hT1)
          clear hT1
          obtain ⟨hb2, S2, hP2⟩ := HO2.out
          have x7 := cell_up hA0.out hb2
          have HC2 := hid (HC.out.put w2 W1.heap.size R1 S2 t2 (q : Int) (-1) id (HKE.out _ _ HT.out hb2) hP2 HGd.out (HBd.out.fit (by omega) (by omega)) hb2.size)
          have HON2 := hid fun w3 (hT1 : TurnedP P w2 w3 W1.heap.size R1 S2 (Dom.putT t2 q (-1) id).1) => one_mk HC.out hb2 hP2 hT1
          have HG3 := hid (Dom.good_put HGd.out (q : Int) (-1) id)
          have HB3 : Hid (Bnd (Dom.putT t2 (q : Int) (-1) id).1 (j + 1 + 1) 1000) := hid (HBd.out.same (sameNd_put t2 (q : Int) (-1) id))
          obtain ⟨PT, hPT⟩ : ∃ PT, Dom.putT t2 (q : Int) (-1) id = PT := ⟨_, rfl⟩
          rw [hPT] at HC2 HON2 HG3 HB3
          clear hb2 hP2 hPT
          go_wp2_with fail
          refine (HC2.out).mono ?_
          rintro e w3 ⟨rfl, hT1⟩
          have HO3 := hid (HON2.out w3 hT1)
          clear hT1
          go_wp2
          go_roundg (n - (j + 1))
          case measure => omega
          case rel => exact ⟨j + 1, PT.1, by omega, by go_num, HO3, HG3, HB3⟩
        · have d1 : decide (j < n) = false := decide_eq_false hlt
          have hltI : ¬ (j : Int) < (n : Int) := by omega
          have hfit := hBn.out.fit (by omega) (by omega)
          have hl0 : 0 < t.length := List.length_pos_iff.2 hGo.out.some
          have hf2 : ∀ u : Dom.T, Bnd u (j + 1 + 1 + 1) 1000 → Fit u := fun u hu => hu.fit (by omega) (by omega)
          have hB1 := bnd_make hBn.out x (by omega)
          obtain ⟨D0, hD0⟩ := HC.out.whole t hGo.out hfit
          have H0 := hid (show ∀ d, St P W1 wr R1 d t [] from fun d => by
            obtain ⟨hb, S, hP⟩ := hOn.out
            exact ⟨hb, S, hP, fun l hl => by cases hl⟩)
          by_cases hk : 1 ≤ x.kind ∧ x.kind ≤ 3
          · obtain ⟨m1, m2, p2⟩ := Dom.plus_two hGo.out x hk
            obtain ⟨u3, m3, p3⟩ := Dom.plus_put1 hGo.out p2
            obtain ⟨u4, m4, p4⟩ := Dom.plus_put2 hGo.out p3
            obtain ⟨u5, m5, p5⟩ := Dom.plus_cut1 hGo.out p4
            obtain ⟨u6, m6, p6⟩ := Dom.plus_cut2 hGo.out p5
            rw [m1] at hB1
            have hG1 : Dom.Good (t ++ [⟨Dom.bareP x, -1, []⟩]) := by have := Dom.good_make hGo.out x; rw [m1] at this; exact this
            have hB2 := bnd_copy hB1 (t.length : Int)
            simp only at hB2
            rw [m2] at hB2
            simp only at hB1 hB2
            generalize hu1 : (t ++ [⟨Dom.bareP x, -1, []⟩] : Dom.T) = u1 at *
            generalize hu2 : (u1 ++ [⟨Dom.bareP x, -1, []⟩] : Dom.T) = u2 at *
            have hB3 := hB2.same (sameNd_put u2 0 (-1) (t.length : Int))
            rw [m3] at hB3
            simp only at hB3
            have hB4 := hB3.same (sameNd_put u3 0 (t.length : Int) ((t.length + 1 : Nat) : Int))
            rw [m4] at hB4
            simp only at hB4
            have hB5 := hB4.same (sameNd_cut u4 (t.length : Int))
            rw [m5] at hB5
            simp only at hB5
            have hB6 := hB5.same (sameNd_cut u5 ((t.length + 1 : Nat) : Int))
            rw [m6] at hB6
            simp only at hB6
            have F1 := hf2 u1 (hB1.wide (by omega) (Nat.le_refl _))
            have F2 := hf2 u2 hB2
            have F3 := hf2 u3 hB3
            have F4 := hf2 u4 hB4
            have F5 := hf2 u5 hB5
            have F6 := hf2 u6 hB6
            obtain ⟨D2, hD2⟩ := HC.out.whole u2 p2.good F2
            obtain ⟨D3, hD3⟩ := HC.out.whole u3 p3.good F3
            obtain ⟨D4, hD4⟩ := HC.out.whole u4 p4.good F4
            obtain ⟨D6, hD6⟩ := HC.out.whole u6 p6.good F6
            obtain ⟨f, hf⟩ : ∃ f, f = D0 + D2 + D3 + D4 + D6 := ⟨_, rfl⟩
            have K0 := hid (hD0 (f + 1) (by omega))
            have K2 := hD2 (f + 1) (by omega)
            have K3 := hD3 (f + 1) (by omega)
            have K4 := hD4 (f + 1) (by omega)
            have K6 := hD6 (f + 1) (by omega)
            rw [p2.whole hGo.out (fun k hk => by cases hk)] at K2
            rw [p3.whole hGo.out (fun k hk => by simp at hk; exact .inl hk)] at K3
            rw [p4.whole hGo.out (fun k hk => by simp at hk; exact hk.symm)] at K4
            rw [p6.whole hGo.out (fun k hk => by cases hk)] at K6
            simp only [List.map_nil, List.append_nil, List.map_cons] at K2 K3 K4 K6
            have hwt := hfit.whole hGo.out (f + 1) (f + 1) 0
            obtain ⟨NS, hNS⟩ : ∃ NS, Dom.wholeF (f + 1) t 0 = NS := ⟨_, rfl⟩
            rw [hNS] at K0 K2 K3 K4 K6 hwt
            have hyw := sumW_bare f x
            have hG3 := p3.good
            have hG4 := p4.good
            have hG5 := p5.good
            have hG2 := p2.good
            generalize Dom.bareP x = y at *
            have K2 := hid K2
            have K3 := hid K3
            have K4 := hid K4
            have K6 := hid K6
            have HMK := hid fun W S hT hP hb hA => HC.out.make W W1.heap.size R1 S t x aa an ac ka kn kc hT hP hGo.out hfit hb hA hnil (by omega)
            have HCP := hid fun W S hT hP hb => HC.out.copy W W1.heap.size R1 S u1 (t.length : Int) hT hP hG1 F1 hb
            have HP3 := hid fun W S hT hP hb => HC.out.put W W1.heap.size R1 S u2 0 (-1) (t.length : Int) hT hP hG2 F2 hb
            have HP4 := hid fun W S hT hP hb => HC.out.put W W1.heap.size R1 S u3 0 (t.length : Int) ((t.length + 1 : Nat) : Int) hT hP hG3 F3 hb
            have HC5 := hid fun W S hT hP hb => HC.out.cut W W1.heap.size R1 S u4 (t.length : Int) hT hP hG4 F4 hb
            have HC6 := hid fun W S hT hP hb => HC.out.cut W W1.heap.size R1 S u5 ((t.length + 1 : Nat) : Int) hT hP hG5 F5 hb
            rw [m1] at HMK
            rw [m2] at HCP
            rw [m3] at HP3
            rw [m4] at HP4
            rw [m5] at HC5
            rw [m6] at HC6
            rw [HV.out.1, HV.out.2.1, HV.out.2.2.1, HV.out.2.2.2] at HMK
            have HA1 := hid HXX.out.1
            obtain ⟨id, hid'⟩ : ∃ id, t.length = id := ⟨_, rfl⟩
            rw [hid'] at HMK HCP HP3 HP4 HC5 HC6
            have hidlt : decide ((id : Int) < 0) = false := decide_eq_false (by omega)
            have hS0 := hid (H0.out (f + 1))
            clear m1 m2 m3 m4 m5 m6 p2 p3 p4 p5 p6 hB1 hB2 hB3 hB4 hB5 hB6 F1 F2 F3 F4 F5 F6 hD0 hD2 hD3 hD4 hD6 hf hNS hG1 hG2 hG3 hG4 hG5 hu1 hu2 hf2 hid' hfit hk hl0 H0
            obtain ⟨hb, S, hP, hL⟩ := hS0.out
            have HCx := hid (K0.out wr W1.heap.size R1 S (HKE.out _ _ HT.out hb) hP)
            clear hb hP hL
            go_wp2_with fail
            refine (HCx.out).mono ?_
            rintro e wa ⟨⟨a1, n1, c1, rfl, hD, _, hlen1⟩, hb⟩
            have hln1 := hD.isN.len
            have S1 := hid (st_whole HC.out hS0.out hD hb)
            clear hD hb HCx
            obtain ⟨hb, S, hP, hL⟩ := S1.out
            have HCx := hid (HMK.out wa S (HKE.out _ _ HT.out hb) hP hb.size (HA1.out.below hb))
            have HON := hid fun w' (hT1 : TurnedP P wa w' W1.heap.size R1 S u1) => st_turn HC.out hb hP hL hT1
            have nb0 := cell_up b0 hb
            have nb1 := cell_up b1 hb
            have nb2 := cell_up b2 hb
            have nb3 := cell_up b3 hb
            have nb4 := cell_up b4 hb
            have nb5 := cell_up b5 hb
            clear hb hP hL
            go_wp2_with fail
            refine (HCx.out).mono ?_
            rintro e wb ⟨rfl, hT1⟩
            have S2 := hid (HON.out wb hT1)
            clear hT1 HCx HON
            obtain ⟨hb, S, hP, hL⟩ := S2.out
            have HCx := hid (HCP.out wb S (HKE.out _ _ HT.out hb) hP hb.size)
            have HON := hid fun w' (hT1 : TurnedP P wb w' W1.heap.size R1 S u2) => st_turn HC.out hb hP hL hT1
            clear hb hP hL
            go_wp2_with fail
            refine (HCx.out).mono ?_
            rintro e wc ⟨rfl, hT1⟩
            have S3 := hid (HON.out wc hT1)
            clear hT1 HCx HON
            obtain ⟨hb, S, hP, hL⟩ := S3.out
            have HCx := hid (K2.out wc W1.heap.size R1 S (HKE.out _ _ HT.out hb) hP)
            clear hb hP hL
            go_wp2_with fail
            refine (HCx.out).mono ?_
            rintro e wd ⟨⟨a2, n2, c2, rfl, hD, _, hlen2⟩, hb⟩
            have hln2 := hD.isN.len
            have S4 := hid (st_whole HC.out S3.out hD hb)
            clear hD hb HCx
            obtain ⟨hb, S, hP, hL⟩ := S4.out
            have HCx := hid (HP3.out wd S (HKE.out _ _ HT.out hb) hP hb.size)
            have HON := hid fun w' (hT1 : TurnedP P wd w' W1.heap.size R1 S u3) => st_turn HC.out hb hP hL hT1
            clear hb hP hL
            go_wp2_with fail
            refine (HCx.out).mono ?_
            rintro e we ⟨rfl, hT1⟩
            have S5 := hid (HON.out we hT1)
            clear hT1 HCx HON
            obtain ⟨hb, S, hP, hL⟩ := S5.out
            have HCx := hid (K3.out we W1.heap.size R1 S (HKE.out _ _ HT.out hb) hP)
            clear hb hP hL
            go_wp2_with fail
            refine (HCx.out).mono ?_
            rintro e wf ⟨⟨a3, n3, c3, rfl, hD, _, hlen3⟩, hb⟩
            have hln3 := hD.isN.len
            have S6 := hid (st_whole HC.out S5.out hD hb)
            clear hD hb HCx
            obtain ⟨hb, S, hP, hL⟩ := S6.out
            have HCx := hid (HP4.out wf S (HKE.out _ _ HT.out hb) hP hb.size)
            have HON := hid fun w' (hT1 : TurnedP P wf w' W1.heap.size R1 S u4) => st_turn HC.out hb hP hL hT1
            clear hb hP hL
            go_wp2_with fail
            refine (HCx.out).mono ?_
            rintro e wg ⟨rfl, hT1⟩
            have S7 := hid (HON.out wg hT1)
            clear hT1 HCx HON
            obtain ⟨hb, S, hP, hL⟩ := S7.out
            have HCx := hid (K4.out wg W1.heap.size R1 S (HKE.out _ _ HT.out hb) hP)
            clear hb hP hL
            go_wp2_with fail
            refine (HCx.out).mono ?_
            rintro e wh ⟨⟨a4, n4, c4, rfl, hD, _, hlen4⟩, hb⟩
            have hln4 := hD.isN.len
            have S8 := hid (st_whole HC.out S7.out hD hb)
            clear hD hb HCx
            obtain ⟨hb, S, hP, hL⟩ := S8.out
            have HCx := hid (HC5.out wh S (HKE.out _ _ HT.out hb) hP hb.size)
            have HON := hid fun w' (hT1 : TurnedP P wh w' W1.heap.size R1 S u5) => st_turn HC.out hb hP hL hT1
            clear hb hP hL
            go_wp2_with fail
            refine (HCx.out).mono ?_
            rintro e wi ⟨rfl, hT1⟩
            have S9 := hid (HON.out wi hT1)
            clear hT1 HCx HON
            obtain ⟨hb, S, hP, hL⟩ := S9.out
            have HCx := hid (HC6.out wi S (HKE.out _ _ HT.out hb) hP hb.size)
            have HON := hid fun w' (hT1 : TurnedP P wi w' W1.heap.size R1 S u6) => st_turn HC.out hb hP hL hT1
            clear hb hP hL
            go_wp2_with fail
            refine (HCx.out).mono ?_
            rintro e wj ⟨rfl, hT1⟩
            have SA := hid (HON.out wj hT1)
            clear hT1 HCx HON
            have hw1 := hwt
            have hn2 : n2 = n1 := by omega
            subst hn2
            rw [List.length_append] at hln3 hln4
            have hn3 : n3 = n2 + 1 := by rw [← hln3, hln1]; rfl
            have hn4 : n4 = n2 + 2 := by rw [← hln4, hln1]; rfl
            subst hn3
            subst hn4
            have AJ := SA.out.2
            obtain ⟨SJ, _, AJ⟩ := AJ
            have D4' := (AJ _ (List.mem_cons_self ..)).1
            have D3' := (AJ _ (List.mem_cons_of_mem _ (List.mem_cons_self ..))).1
            obtain ⟨b4, e4⟩ : ∃ b, a4 = some ⟨b, 0, none⟩ := by
              obtain ⟨b, cs, _, _, _, e, _⟩ := D4'.2.resolve_left (by show ¬ n2 + 2 = 0; omega)
              exact ⟨b, e⟩
            obtain ⟨b3', e3⟩ : ∃ b, a3 = some ⟨b, 0, none⟩ := by
              obtain ⟨b, cs, _, _, _, e, _⟩ := D3'.2.resolve_left (by show ¬ n2 + 1 = 0; omega)
              exact ⟨b, e⟩
            clear D4' D3' AJ
            subst e4
            subst e3
            have hln : NS.length = n2 := hln1
            have HSA := hid fun W (hb : Below wj.heap.size wj W) => (show Calls Try.prog 27 #[.slice (some ⟨b4, n2 * 6, none⟩) 1 (c4 - n2), .slice (some ⟨b4, (n2 + 1) * 6, none⟩) 1 (c4 - (n2 + 1))] W fun e w' => e = .returned (.bool true) ∧ Below W.heap.size W w' from by
              have hS := st_below HC.out SA.out hb
              have N4 := hS.isN _ (List.mem_cons_self ..)
              have N41 := N4.slice n2 1 (by show n2 + 1 ≤ n2 + 2; omega)
              have N42 := N4.slice (n2 + 1) 1 (by show n2 + 1 + 1 ≤ n2 + 2; omega)
              rw [Nat.zero_add] at N41 N42
              simp only at N41 N42
              rw [← hln, take_one] at N41
              rw [← hln, drop_one] at N42
              have h := HSS.out (f + 1) _ _ [y] [y] (some ⟨b4, NS.length * 6, none⟩) 1 (c4 - n2) (some ⟨b4, (NS.length + 1) * 6, none⟩) 1 (c4 - (n2 + 1)) W (HKE.out _ _ HT.out hS.1) N41 N42 (by omega) (by omega)
              rw [Dom.sameB_refl, hln] at h
              exact h)
            have HS1 := hid fun W (hb : Below wj.heap.size wj W) => (show Calls Try.prog 31 #[.slice a1 n2 c1, .slice a2 n2 c2] W fun e w' => e = .returned (.bool true) ∧ Below W.heap.size W w' from by
              have hS := st_below HC.out SA.out hb
              have NA := hS.isN _ (List.mem_cons_of_mem _ (List.mem_cons_of_mem _ (List.mem_cons_of_mem _ (List.mem_cons_self ..))))
              have NB := hS.isN _ (List.mem_cons_of_mem _ (List.mem_cons_of_mem _ (List.mem_cons_self ..)))
              exact sameN_any (f + 1) _ _ NS a1 n2 c1 a2 c2 W NA NB (by omega))
            have HS2 := hid fun W (hb : Below wj.heap.size wj W) => (show Calls Try.prog 31 #[.slice (some ⟨b3', 0, none⟩) n2 c3, .slice a1 n2 c1] W fun e w' => e = .returned (.bool true) ∧ Below W.heap.size W w' from by
              have hS := st_below HC.out SA.out hb
              have NA := hS.isN _ (List.mem_cons_of_mem _ (List.mem_cons_of_mem _ (List.mem_cons_of_mem _ (List.mem_cons_self ..))))
              have NB := (hS.isN _ (List.mem_cons_of_mem _ (List.mem_cons_self ..))).slice 0 n2 (by show 0 + n2 ≤ n2 + 1; omega)
              rw [Nat.zero_add, Nat.zero_mul, List.drop_zero] at NB
              simp only at NB
              rw [← hln, List.take_left, hln] at NB
              exact sameN_any (f + 1) _ _ NS _ n2 c3 a1 c1 W NB NA (by omega))
            have HS3 := hid fun W (hb : Below wj.heap.size wj W) S a6 c6 (N6 : IsN S (f + 1) W a6 n2 NS) => (show Calls Try.prog 31 #[.slice a6 n2 c6, .slice a1 n2 c1] W fun e w' => e = .returned (.bool true) ∧ Below W.heap.size W w' from by
              have hS := st_below HC.out SA.out hb
              have NA := hS.isN _ (List.mem_cons_of_mem _ (List.mem_cons_of_mem _ (List.mem_cons_of_mem _ (List.mem_cons_self ..))))
              exact sameN_any (f + 1) _ _ NS a6 n2 c6 a1 c1 W N6 NA (by omega))
            have HW6 := hid fun W (hb : Below wj.heap.size wj W) => (show Calls Try.prog 32 #[.pointer (some ⟨R1, 0, none⟩), .int .i64 0] W fun e w' => NewD (f + 1) W w' e NS ∧ Below W.heap.size W w' from by
              obtain ⟨hb1, S, hP, _⟩ := st_below HC.out SA.out hb
              exact K6.out W W1.heap.size R1 S (HKE.out _ _ HT.out hb1) hP)
            have HE := hid fun W (hb : Below wj.heap.size wj W) => (st_below HC.out SA.out hb).1
            have Bj := (Below.refl wj.heap.size wj).drew
            have HLN := hid hln
            have hq4 : ¬ c4 = n2 := by omega
            have hq5 : ¬ c4 = n2 + 1 := by omega
            have hq6 : n2 + 1 ≤ c4 := by omega
            have hq7 : n2 ≤ c4 := by omega
            have hq8 : ¬ c3 = 0 := by omega
            have hq9 : n2 ≤ c3 := by omega
            have hqA : n2 ≤ n2 + 1 := by omega
            have hqB : n2 + 1 ≤ n2 + 2 := by omega
            have hqC : ((n2 : Int) + 1).toNat = n2 + 1 := by omega
            have hqD : ((n2 : Int)).toNat = n2 := by omega
            have g1 : (0 : Int) ≤ (n2 : Int) := by omega
            have g2 : (0 : Int) ≤ (n2 : Int) + 1 := by omega
            have g3 : (n2 : Int) + 1 ≤ (c4 : Int) := by omega
            have g4 : (n2 : Int) ≤ (n2 : Int) + 1 := by omega
            have g5 : (n2 : Int) + 1 ≤ ((n2 + 2 : Nat) : Int) := by omega
            have g6 : (n2 : Int) ≤ (c4 : Int) := by omega
            have g7 : (n2 : Int) + 1 ≤ (n2 : Int) + 2 := by omega
            have g8 : n2 + 2 ≤ c4 := by omega
            have g9 : ((n2 : Int) + 2).toNat = n2 + 2 := by omega
            have gA : (n2 : Int) + 2 ≤ (c4 : Int) := by omega
            have gB : (0 : Int) ≤ (n2 : Int) + 2 := by omega
            have hqF : ((((n2 + 1 : Nat)) : Int) != (n2 : Int) + 1) = false := by simp
            have hqG : ((((n2 + 2 : Nat)) : Int) != (n2 : Int) + 2) = false := by simp
            have hqH : IntKind.i64.wrap ((n2 : Int) + 1) = (n2 : Int) + 1 := by have := Dom.sumW_len f NS; rw [show ((n2 : Int) + 1) = ((n2 + 1 : Nat) : Int) by omega]; exact wrap_nat (by omega)
            have hqI : IntKind.i64.wrap ((n2 : Int) + 2) = (n2 : Int) + 2 := by have := Dom.sumW_len f NS; rw [show ((n2 : Int) + 2) = ((n2 + 2 : Nat) : Int) by omega]; exact wrap_nat (by omega)
            have hqE : n2 ≤ 500000000 := by have := Dom.sumW_len f NS; omega
            clear S1 S2 S3 S4 S5 S6 S7 S8 S9 hln hln1 hln2 hln3 hln4 hS0 nb0 nb1 nb2 nb3 nb4 nb5 hwt hw1 hyw
            go_wp2
            go_region_held3 (fun _ => True) (exact trivial) (first
              | (go_at_call 27; (with_reducible refine (HSA.out _ Bj).mono ?_); rintro e wk ⟨rfl, bk⟩; have Bk := hid (Bj.trans (bk.mono Bj.size)); clear bk))
            all_goals go_wp2_with fail
            all_goals refine (HS1.out _ Bk.out).mono ?_
            all_goals rintro e wl ⟨rfl, bl⟩
            all_goals have Bl := hid (Bk.out.trans (bl.mono Bk.out.size))
            all_goals clear bl
            all_goals go_wp2_with fail
            all_goals refine (HS2.out _ Bl.out).mono ?_
            all_goals rintro e wm ⟨rfl, bm⟩
            all_goals have Bm := hid (Bl.out.trans (bm.mono Bl.out.size))
            all_goals clear bm
            all_goals go_wp2_with fail
            all_goals refine (HW6.out _ Bm.out).mono ?_
            all_goals rintro e wo ⟨⟨a6, n6, c6, rfl, hD6, _⟩, bo⟩
            all_goals have Bo := hid (Bm.out.trans (bo.mono Bm.out.size))
            all_goals have h6 := hD6.isN
            all_goals obtain rfl : n6 = n2 := by rw [← h6.len]; exact HLN.out
            all_goals have HS3' := hid (HS3.out wo Bo.out _ a6 c6 h6)
            all_goals clear bo hD6 h6
            all_goals go_wp2_with fail
            all_goals refine (HS3'.out).mono ?_
            all_goals rintro e wp ⟨rfl, bp⟩
            all_goals have Bp := hid (Bo.out.trans (bp.mono Bo.out.size))
            all_goals clear bp
            all_goals go_wp2
            all_goals go_ret
            all_goals exact ⟨rfl, HAL.out.trans ((HE.out _ Bp.out).mono HAL.out.size)⟩
          · have e0 : Dom.makeT t x = (t, -1) := by unfold Dom.makeT; rw [if_pos (by omega)]
            have K0 := hid (hD0 (D0 + 1) (Nat.lt_succ_self _))
            obtain ⟨NS, hNS⟩ : ∃ NS, Dom.wholeF (D0 + 1) t 0 = NS := ⟨_, rfl⟩
            rw [hNS] at K0
            have HMK := hid fun W S hT hP hb hA => HC.out.make W W1.heap.size R1 S t x aa an ac ka kn kc hT hP hGo.out hfit hb hA hnil (by omega)
            rw [e0] at HMK
            rw [HV.out.1, HV.out.2.1, HV.out.2.2.1, HV.out.2.2.2] at HMK
            have HA1 := hid HXX.out.1
            have hK3 : K < 1 ∨ 3 < K := by have := HV.out.2.2.1; omega
            have hS0 := hid (H0.out (D0 + 1))
            clear e0 hD0 hNS hf2 hfit hk hl0 H0 hB1
            obtain ⟨hb, S, hP, hL⟩ := hS0.out
            have HCx := hid (K0.out wr W1.heap.size R1 S (HKE.out _ _ HT.out hb) hP)
            clear hb hP hL
            go_wp2_with fail
            refine (HCx.out).mono ?_
            rintro e wa ⟨⟨a1, n1, c1, rfl, hD, _, hlen1⟩, hb⟩
            have hln1 := hD.isN.len
            have S1 := hid (st_whole HC.out hS0.out hD hb)
            clear hD hb HCx
            obtain ⟨hb, S, hP, hL⟩ := S1.out
            have HCx := hid (HMK.out wa S (HKE.out _ _ HT.out hb) hP hb.size (HA1.out.below hb))
            have HON := hid fun w' (hT1 : TurnedP P wa w' W1.heap.size R1 S t) => st_turn HC.out hb hP hL hT1
            have nb0 := cell_up b0 hb
            have nb1 := cell_up b1 hb
            have nb2 := cell_up b2 hb
            have nb3 := cell_up b3 hb
            have nb4 := cell_up b4 hb
            have nb5 := cell_up b5 hb
            clear hb hP hL
            go_wp2_with fail
            refine (HCx.out).mono ?_
            rintro e wb ⟨rfl, hT1⟩
            have S2 := hid (HON.out wb hT1)
            clear hT1 HCx HON
            have HE := hid fun W (hb : Below wb.heap.size wb W) => (st_below HC.out S2.out hb).1
            have hbe := S2.out.1
            have k0 := cell_up b0 hbe
            rcases hK3 with hK3 | hK3
            · obtain rfl : K = 0 := by omega
              go_wp2
              go_ret
              exact ⟨rfl, HAL.out.trans (hbe.mono HAL.out.size)⟩
            · have e1 : decide ((K : Int) < 1) = false := decide_eq_false (by omega)
              have e2 : decide ((3 : Int) < (K : Int)) = true := decide_eq_true (by omega)
              have e1n : decide (K < 1) = false := decide_eq_false (by omega)
              have e2n : decide (3 < K) = true := decide_eq_true hK3
              go_wp2
              go_ret
              exact ⟨rfl, HAL.out.trans (hbe.mono HAL.out.size)⟩
end Go.Proofs.Ythbklcpjbeelhaa
