/- Walks: package tympanlaw10: two trees are alike, by all that they tell; package tympanref00: lists of numbers are alike. What holds between two calls of the statement DomDoes: both trees are the same one, apart, and not too great. -/
import Derived.Test.YthbklcpjbeelhaaNodeLend
import Derived.Test.YthbklcpjbeelhaaRefWhole
import Derived.Test.YthbklcpjbeelhaaNodeSame
import Derived.Test.YthbklcpjbeelhaaDomHeavy
import Derived.Test.YthbklcpjbeelhaaTreeGrow
import Derived.Deep.LoopGhost
namespace Go.Proofs.Ythbklcpjbeelhaa
open Go.RowKit Go.Lib
set_option maxRecDepth 100000
set_option linter.unusedVariables false

set_option maxHeartbeats 4000000 in
theorem sameZ_any (l : List Nat) (a1 : Option Addr) (n c1 : Nat) (a2 : Option Addr) (c2 : Nat) (w : World) (h : IsZ w a1 n l) (g : IsZ w a2 n l) (hn : n ≤ 1000000) :
    Calls Try.prog 52 #[.slice a1 n c1, .slice a2 n c2] w fun e w' => e = .returned (.bool true) ∧ Below w.heap.size w w' := by
  have HH := hid h
  have HG := hid g
  have HL := hid h.1
  clear h g
  go_enter Try.func52, Try.ntmps52
  go_wp2
  go_loopg [5] n (fun gg iv wr => ∃ j : Nat, j + gg = n ∧ iv = .int .i64 j ∧ Hid (Below w.heap.size w wr))
  case atStart => exact ⟨0, by omega, rfl, hid (Below.refl _ _)⟩
  case round =>
    obtain ⟨j, hj, rfl, hB⟩ := hrel
    by_cases hlt : j < n
    · have d1 : decide (j < n) = true := decide_eq_true hlt
      have hltI : (j : Int) < (n : Int) := by omega
      obtain ⟨x, hx⟩ : ∃ x, l[j]? = some x := ⟨_, List.getElem?_eq_getElem (by have := HL.out; omega)⟩
      obtain ⟨b1, o1, rfl, t1⟩ := HH.out.2.resolve_left (by omega)
      obtain ⟨b2, o2, rfl, t2⟩ := HG.out.2.resolve_left (by omega)
      have x1 := cell_up (t1 j x hx) hB.out
      have x2 := cell_up (t2 j x hx) hB.out
      have HB2 := hid hB.out.drew
      clear t1 t2 hx
      go_wp2
      go_region
      all_goals go_wp2
      all_goals go_roundg (n - (j + 1))
      case measure => omega
      case rel => exact ⟨j + 1, by omega, by go_num, HB2⟩
    · have d1 : decide (j < n) = false := decide_eq_false hlt
      have hltI : ¬ (j : Int) < (n : Int) := by omega
      go_wp2
      go_ret
      exact ⟨rfl, hB.out⟩
theorem TreeX.read {w : World} {base R : Nat} {S : Nat → Prop} {t : Dom.T} (h : TreeX w base R S t) (hG : Dom.Good t) (hf : t.length ≤ 1000000) : ∃ g cap, TreeR w R g cap t := by
  obtain ⟨v, rs, h⟩ := h
  obtain ⟨g, cap, _, _, hR⟩ := h.read hG.some hf
  exact ⟨g, cap, hR⟩
set_option maxHeartbeats 8000000 in
theorem stands_any {EW : World → Prop} {P : World → Nat → Nat → (Nat → Prop) → Dom.T → Prop} (HC : DomC EW P) (HK : KeepsW EW) (w : World) (base R1 R2 : Nat) (S1 S2 : Nat → Prop) (t : Dom.T) (most : Nat) (hT : EW w) (hP : P w base R1 S1 t) (hX : TreeX w base R2 S2 t) (hG : Dom.Good t) (hF : Fit t) (hm : most ≤ 1000) :
    Calls Try.prog 25 #[.pointer (some ⟨R1, 0, none⟩), .pointer (some ⟨R2, 0, none⟩), .int .i64 most] w fun e w' => e = .returned (.bool true) ∧ Below w.heap.size w w' := by
  obtain ⟨g, cap, hR⟩ := hX.read hG (by have := hF.few; omega)
  have KF := hid (show ∀ j, (Dom.kidsAt t j).length ≤ 1000000 from fun j => by have := good_few hG j; have := hF.few; omega)
  have C1 := hid fun W (hb : Below w.heap.size w W) i => HC.parent W base R1 S1 t i (HK _ _ hT hb) (HC.below hP hb) hG hF
  have C2 := hid fun W (hb : Below w.heap.size w W) i => rparent_any W R2 g cap t i (hR.below hb)
  have C3 := hid fun W (hb : Below w.heap.size w W) i => HC.kids W base R1 S1 t i (HK _ _ hT hb) (HC.below hP hb) hG hF
  have C4 := hid fun W (hb : Below w.heap.size w W) i => rkids_any W R2 g cap t i (hR.below hb) KF.out
  obtain ⟨D1, hD1⟩ := HC.whole t hG hF
  obtain ⟨D2, hD2⟩ := rwhole_any hG (fun i => by have := hF.atts i; omega)
  obtain ⟨d, hd⟩ : ∃ d, d = max D1 D2 + 1 := ⟨_, rfl⟩
  have C5 := hid fun W (hb : Below w.heap.size w W) => hD1 d (by omega) W base R1 S1 (HK _ _ hT hb) (HC.below hP hb)
  have C6 := hid fun W (hb : Below w.heap.size w W) => hD2 d (by omega) 0 (List.length_pos_iff.2 hG.some) W R2 g cap (hR.below hb)
  have HWT := hid (hF.whole hG d d 0)
  obtain ⟨NS, hNS⟩ : ∃ NS, Dom.wholeF d t 0 = NS := ⟨_, rfl⟩
  rw [hNS] at C5 C6 HWT
  have HKL := hid (show ∀ i, (Dom.kidsT t i).length ≤ 1000000 from fun i => by
    unfold Dom.kidsT
    split
    · exact KF.out _
    · exact Nat.zero_le _)
  clear hD1 hD2 hd hNS hR hX hP hT HC hG hF KF
  go_enter Try.func25, Try.ntmps25
  go_wp2
  go_loopg [7] (most + 2) (fun gg iv wr => ∃ j : Nat, j + gg = most + 2 ∧ iv = .int .i64 ((j : Int) - 1) ∧ Hid (Below w.heap.size w wr))
  case atStart => exact ⟨0, by omega, rfl, hid (Below.refl _ _)⟩
  case round =>
    obtain ⟨j, hj, rfl, hB⟩ := hrel
    obtain ⟨q, hq⟩ : ∃ q, (j : Int) - 1 = q := ⟨_, rfl⟩
    rw [hq]
    by_cases hlt : j < most + 2 ∧ j ≤ most + 1
    · have d1 : decide (q ≤ (most : Int)) = true := decide_eq_true (by omega)
      obtain ⟨PV, hPV⟩ : ∃ PV, Dom.parentT t q = PV := ⟨_, rfl⟩
      obtain ⟨KV, hKV⟩ : ∃ KV, Dom.kidsT t q = KV := ⟨_, rfl⟩
      have A1 := hid fun W hb => C1.out W hb q
      have A2 := hid fun W hb => C2.out W hb q
      have A3 := hid fun W hb => C3.out W hb q
      have A4 := hid fun W hb => C4.out W hb q
      have HKq := hid (HKL.out q)
      rw [hPV] at A1 A2
      rw [hKV] at A3 A4 HKq
      have hq1 : q + 1 = ((j + 1 : Nat) : Int) - 1 := by omega
      have hq2 : q ≤ 1000 := by omega
      have hq3 : -1 ≤ q := by omega
      clear hPV hKV
      go_wp2_with fail
      refine (A1.out _ hB.out).mono ?_
      rintro e w1 ⟨rfl, b1⟩
      have B1 := hid (hB.out.trans (b1.mono hB.out.size))
      clear b1
      go_wp2_with fail
      refine (A2.out _ B1.out).mono ?_
      rintro e w2 ⟨rfl, rfl⟩
      go_wp2_with fail
      refine (A3.out _ B1.out).mono ?_
      rintro e w3 ⟨⟨a3, c3, rfl, i3, _, _⟩, b3⟩
      have B3 := hid (B1.out.trans (b3.mono B1.out.size))
      have I3 := hid i3
      clear b3 i3
      go_wp2_with fail
      refine (A4.out _ B3.out).mono ?_
      rintro e w4 ⟨⟨a4, c4, rfl, i4, _, _⟩, b4⟩
      have B4 := hid (B3.out.trans (b4.mono B3.out.size))
      have SZ := hid (sameZ_any KV a3 KV.length c3 a4 c4 w4 (I3.out.below b4) i4 HKq.out)
      clear b4 i4
      go_wp2_with fail
      refine (SZ.out).mono ?_
      rintro e w5 ⟨rfl, b5⟩
      have B5 := hid (B4.out.trans (b5.mono B4.out.size))
      clear b5
      go_wp2
      go_roundg (most + 2 - (j + 1))
      case measure => omega
      case rel => exact ⟨j + 1, by omega, by first | (rw [hq1]; done) | (rw [← hq1]; go_num) | go_num, B5⟩
    · have d1 : decide (q ≤ (most : Int)) = false := decide_eq_false (by omega)
      go_wp2_with fail
      refine (C5.out _ hB.out).mono ?_
      rintro e w1 ⟨⟨a1, n1, c1, rfl, h1, _⟩, b1⟩
      have B1 := hid (hB.out.trans (b1.mono hB.out.size))
      have N1 := hid (h1.isN)
      clear h1 b1
      go_wp2_with fail
      refine (C6.out _ B1.out).mono ?_
      rintro e w2 ⟨⟨a2, n2, c2, rfl, h2, _⟩, b2⟩
      have B2 := hid (B1.out.trans (b2.mono B1.out.size))
      have N2 := h2.isN
      have N1' := N1.out.below b2
      obtain rfl : n2 = n1 := by rw [← N2.len, ← N1'.len]
      have SN := hid (sameN_any d _ _ NS a1 n2 c1 a2 c2 w2 N1' N2 (by have := HWT.out; omega))
      clear h2 b2 N2 N1'
      go_wp2_with fail
      refine (SN.out).mono ?_
      rintro e w3 ⟨rfl, b3⟩
      have B3 := hid (B2.out.trans (b3.mono B2.out.size))
      clear b3
      go_wp2
      go_ret
      exact ⟨rfl, B3.out⟩
end Go.Proofs.Ythbklcpjbeelhaa
namespace Go.Proofs.Ythbklcpjbeelhaa
open Go.RowKit Go.Lib
set_option maxRecDepth 100000
set_option linter.unusedVariables false

/-! ### What calls add -/
/-- The same nodes, wherever they stand. -/
def SameNd (t u : Dom.T) : Prop := u.length = t.length ∧ ∀ j, (Dom.nodeAt u j).nd = (Dom.nodeAt t j).nd
theorem SameNd.refl (t : Dom.T) : SameNd t t := ⟨rfl, fun _ => rfl⟩
theorem SameNd.trans {t u v : Dom.T} (h : SameNd t u) (g : SameNd u v) : SameNd t v := ⟨g.1.trans h.1, fun j => (g.2 j).trans (h.2 j)⟩
theorem upd_out {t : Dom.T} {i : Nat} (h : t.length ≤ i) (f : Dom.TN → Dom.TN) : Dom.upd t i f = t := by
  unfold Dom.upd
  apply List.ext_getElem?
  intro k
  rw [List.getElem?_modify]
  by_cases e : i = k
  · subst e
    rw [List.getElem?_eq_none h]
    rfl
  · simp [e]
theorem SameNd.upd {t u : Dom.T} (h : SameNd t u) (i : Nat) (f : Dom.TN → Dom.TN) (hf : ∀ x, (f x).nd = x.nd) : SameNd t (Dom.upd u i f) := by
  refine h.trans ⟨Dom.upd_len _ _ _, fun j => ?_⟩
  by_cases hi : i < u.length
  · rw [Dom.upd_at _ _ _ hi]
    split
    · rename_i e; rw [hf, e]
    · rfl
  · rw [upd_out (by omega)]
theorem sameNd_cut (t : Dom.T) (i : Int) : SameNd t (Dom.cutT t i).1 := by
  unfold Dom.cutT
  split
  · exact .refl t
  · refine SameNd.upd (SameNd.upd (SameNd.refl t) _ _ ?_) _ _ ?_ <;> exact fun _ => rfl
theorem sameNd_put (t : Dom.T) (p b i : Int) : SameNd t (Dom.putT t p b i).1 := by
  unfold Dom.putT
  split
  · exact .refl t
  · refine SameNd.upd (SameNd.upd (sameNd_cut t i) _ _ ?_) _ _ ?_ <;> exact fun _ => rfl
theorem sameNd_pars (b : Int) : ∀ (l : List Nat) (t u : Dom.T), SameNd t u → SameNd t (parsT b u l)
  | [], t, u, h => h
  | k :: r, t, u, h => by
    show SameNd t (parsT b (Dom.upd u k fun x => { x with par := b }) r)
    exact sameNd_pars b r t _ (h.upd k (fun x => { x with par := b }) fun _ => rfl)
theorem sameNd_move (t : Dom.T) (a b : Int) : SameNd t (Dom.moveT t a b).1 := by
  unfold Dom.moveT
  split
  · exact .refl t
  · refine SameNd.upd (sameNd_pars b (Dom.kidsAt t a.toNat) t _ (SameNd.upd (SameNd.refl t) a.toNat (fun x => { x with kids := [] }) fun _ => rfl)) b.toNat _ ?_
    exact fun _ => rfl
/-- At most so many, none heavier than that. -/
def Bnd (t : Dom.T) (L C : Nat) : Prop := t.length ≤ L ∧ ∀ i, Dom.cost (Dom.nodeAt t i).nd ≤ C
theorem Bnd.same {t u : Dom.T} {L C : Nat} (h : Bnd t L C) (g : SameNd t u) : Bnd u L C := ⟨by rw [g.1]; exact h.1, fun i => by rw [g.2]; exact h.2 i⟩
theorem Bnd.wide {t : Dom.T} {L C L' C' : Nat} (h : Bnd t L C) (hL : L ≤ L') (hC : C ≤ C') : Bnd t L' C' := ⟨Nat.le_trans h.1 hL, fun i => Nat.le_trans (h.2 i) hC⟩
theorem Bnd.fit {t : Dom.T} {L C : Nat} (h : Bnd t L C) (hL : L ≤ 1000) (hC : C ≤ 500000) : Fit t := ⟨Nat.le_trans h.1 hL, fun i => Nat.le_trans (h.2 i) hC⟩
theorem Bnd.snoc {t : Dom.T} {L C : Nat} (h : Bnd t L C) (x : Dom.TN) (hx : Dom.cost x.nd ≤ C) : Bnd (t ++ [x]) (L + 1) C := by
  refine ⟨by rw [List.length_append]; exact Nat.add_le_add_right h.1 1, fun i => ?_⟩
  rw [Dom.nodeAt_snoc]
  split
  · exact hx
  · exact h.2 i
theorem bnd_make {t : Dom.T} {L C : Nat} (h : Bnd t L C) (x : Dom.N) (hx : Dom.cost x ≤ C) : Bnd (Dom.makeT t x).1 (L + 1) C := by
  unfold Dom.makeT
  split
  · exact h.wide (Nat.le_succ _) (Nat.le_refl _)
  · exact h.snoc _ (Nat.le_trans (cost_bare x) hx)
theorem bnd_copy {t : Dom.T} {L C : Nat} (h : Bnd t L C) (i : Int) : Bnd (Dom.copyT t i).1 (L + 1) C := by
  unfold Dom.copyT
  split
  · exact h.wide (Nat.le_succ _) (Nat.le_refl _)
  · exact bnd_make h _ (h.2 _)
theorem cost_text (x : Dom.TN) (s : List UInt8) : Dom.cost (Dom.addText x s).nd ≤ Dom.cost x.nd + (1 + s.length / 8) := by
  show (1 + (x.nd.text ++ s).length / 8 + x.nd.name.length / 8) + Dom.sumA x.nd.atts ≤ ((1 + x.nd.text.length / 8 + x.nd.name.length / 8) + Dom.sumA x.nd.atts) + (1 + s.length / 8)
  rw [List.length_append]
  omega
theorem bnd_write {t : Dom.T} {L C : Nat} (h : Bnd t L C) (hC : 1 ≤ C) (p b : Int) (s : List UInt8) (M : Nat) (hs : s.length / 8 ≤ M) : Bnd (Dom.writeT t p b s).1 (L + 1) (C + (1 + M)) := by
  unfold Dom.writeT
  split
  · exact h.wide (Nat.le_succ _) (Nat.le_add_right _ _)
  · split
    · exact h.wide (Nat.le_succ _) (Nat.le_add_right _ _)
    · simp only
      split
      · refine ⟨by rw [Dom.upd_len]; exact Nat.le_trans h.1 (Nat.le_succ _), fun i => ?_⟩
        have h0 := h.2 i
        generalize (Dom.kidsAt t p.toNat).getD ((Dom.placeL (Dom.kidsAt t p.toNat) b).toNat - 1) 0 = q
        by_cases hq : q < t.length
        · rw [Dom.upd_at _ _ _ hq]
          split
          · show Dom.cost (Dom.addText (Dom.nodeAt t q) s).nd ≤ _
            have h5 := cost_text (Dom.nodeAt t q) s
            have h6 := h.2 q
            omega
          · omega
        · rw [upd_out (by omega)]
          show Dom.cost (Dom.nodeAt t i).nd ≤ _
          omega
      · have hx : Dom.cost (Dom.bareP (.mk 2 0 [] [] s [])) ≤ C + (1 + M) := by
          refine Nat.le_trans (cost_bare _) ?_
          show (1 + s.length / 8 + 0 / 8) + 0 ≤ _
          omega
        exact (Bnd.snoc (h.wide (Nat.le_refl _) (Nat.le_add_right _ _)) ⟨Dom.bareP (.mk 2 0 [] [] s []), -1, []⟩ hx).same (sameNd_put _ p b t.length)
theorem bnd_new : Bnd Dom.tNew 1 1 := by
  refine ⟨Nat.le_refl _, fun i => ?_⟩
  cases i with
  | zero => exact Nat.le_refl _
  | succ i =>
    rw [Dom.nodeAt_none (by show 1 ≤ i + 1; omega)]
    exact Nat.le_refl _
theorem sum_ge (f : DOp → Nat) {x : DOp} : ∀ {l : List DOp}, x ∈ l → f x ≤ (l.map f).sum
  | y :: r, hx => by
    rw [List.map_cons, List.sum_cons]
    rcases List.mem_cons.1 hx with rfl | hx
    · exact Nat.le_add_right _ _
    · exact Nat.le_trans (sum_ge f hx) (Nat.le_add_left _ _)
/-! ### Both trees -/
/-- Both are t, apart. -/
def Both (P : World → Nat → Nat → (Nat → Prop) → Dom.T → Prop) (w0 w : World) (R1 R2 : Nat) (t : Dom.T) : Prop := Below w0.heap.size w0 w ∧ ∃ S1 S2, P w w0.heap.size R1 S1 t ∧ TreeX w w0.heap.size R2 S2 t ∧ ∀ k, S1 k → ¬ S2 k
/-- The program's is u already, the other one t still. -/
def Midd (P : World → Nat → Nat → (Nat → Prop) → Dom.T → Prop) (w0 w : World) (R1 R2 : Nat) (u t : Dom.T) (S2 : Nat → Prop) : Prop := Below w0.heap.size w0 w ∧ TreeX w w0.heap.size R2 S2 t ∧ ∃ S1, P w w0.heap.size R1 S1 u ∧ ∀ k, S1 k → ¬ S2 k
theorem Both.below {EW : World → Prop} {P : World → Nat → Nat → (Nat → Prop) → Dom.T → Prop} (HC : DomC EW P) {w0 w w' : World} {R1 R2 : Nat} {t : Dom.T} (h : Both P w0 w R1 R2 t) (hb : Below w.heap.size w w') : Both P w0 w' R1 R2 t := by
  obtain ⟨h1, S1, S2, h2, h3, h4⟩ := h
  exact ⟨h1.trans (hb.mono h1.size), S1, S2, HC.below h2 hb, h3.below hb, h4⟩
theorem midd_mk {EW : World → Prop} {P : World → Nat → Nat → (Nat → Prop) → Dom.T → Prop} (HC : DomC EW P) {w0 w w' : World} {R1 R2 : Nat} {t u : Dom.T} {S1 S2 : Nat → Prop} (h1 : Below w0.heap.size w0 w) (h2 : P w w0.heap.size R1 S1 t) (h3 : TreeX w w0.heap.size R2 S2 t) (h4 : ∀ k, S1 k → ¬ S2 k) (hT : TurnedP P w w' w0.heap.size R1 S1 u) : Midd P w0 w' R1 R2 u t S2 := by
  obtain ⟨S1', g1, g2⟩ := hT
  have hd : ∀ k, S2 k → ¬ S1 k := fun k a b => h4 k b a
  exact ⟨g2.below h1 h1.size fun k hk => (HC.inb h2 k hk).1, h3.keep g2 hd, S1', g1, fun k a b => g2.apart hd (fun k hk => (h3.inb k hk).2) k b a⟩
theorem both_mk {EW : World → Prop} {P : World → Nat → Nat → (Nat → Prop) → Dom.T → Prop} (HC : DomC EW P) {w0 w w' : World} {R1 R2 : Nat} {t u : Dom.T} {S2 : Nat → Prop} (h : Midd P w0 w R1 R2 u t S2) (hT : Turned w w' w0.heap.size R2 S2 u) : Both P w0 w' R1 R2 u := by
  obtain ⟨h1, h3, S1, h2, h4⟩ := h
  obtain ⟨S2', g1, g2⟩ := hT
  exact ⟨g2.below h1 h1.size fun k hk => (h3.inb k hk).1, S1, S2', HC.keep h2 g2 h4, g1, g2.apart h4 fun k hk => (HC.inb h2 k hk).2⟩
/-- A block that is neither's. -/
theorem Turn.blk {S S' : Nat → Prop} {w w' : World} {g : Nat} {cs : Array Value} {T : TypeId} (hT : Turn S S' w w') (h : BlkW w g cs T) (hn : ¬ S g) : BlkW w' g cs T := (hT.block g h.lt hn).trans h
/-! ### Make, of a node that is written over behind it -/
/-- None of S in this stretch. -/
def Off (S : Nat → Prop) (lo hi : Nat) : Prop := ∀ k, S k → ¬ (lo ≤ k ∧ k < hi)
def MiddQ (P : World → Nat → Nat → (Nat → Prop) → Dom.T → Prop) (w0 w : World) (R1 R2 : Nat) (u t : Dom.T) (S2 : Nat → Prop) (lo hi d : Nat) (a : Option Addr) (n : Nat) (ns : List Dom.N) : Prop :=
  Below w0.heap.size w0 w ∧ TreeX w w0.heap.size R2 S2 t ∧ IsD d w lo hi a n ns ∧ hi ≤ w.heap.size ∧ ∃ S1, P w w0.heap.size R1 S1 u ∧ (∀ k, S1 k → ¬ S2 k) ∧ Off S1 lo hi
def BothQ (P : World → Nat → Nat → (Nat → Prop) → Dom.T → Prop) (w0 w : World) (R1 R2 : Nat) (u : Dom.T) (lo hi d : Nat) (a : Option Addr) (n : Nat) (ns : List Dom.N) : Prop :=
  Below w0.heap.size w0 w ∧ IsD d w lo hi a n ns ∧ hi ≤ w.heap.size ∧ ∃ S1 S2, P w w0.heap.size R1 S1 u ∧ TreeX w w0.heap.size R2 S2 u ∧ (∀ k, S1 k → ¬ S2 k) ∧ Off S1 lo hi ∧ Off S2 lo hi
theorem middq_mk {EW : World → Prop} {P : World → Nat → Nat → (Nat → Prop) → Dom.T → Prop} (HC : DomC EW P) {w0 w w' : World} {R1 R2 : Nat} {t u : Dom.T} {S1 S2 : Nat → Prop} {lo hi d : Nat} {a : Option Addr} {n : Nat} {ns : List Dom.N} (h1 : Below w0.heap.size w0 w) (h2 : P w w0.heap.size R1 S1 t) (h3 : TreeX w w0.heap.size R2 S2 t) (h4 : ∀ k, S1 k → ¬ S2 k)
    (hD : IsD d w lo hi a n ns) (hh : hi ≤ w.heap.size) (o1 : Off S1 lo hi) (hT : TurnedP P w w' w0.heap.size R1 S1 u) : MiddQ P w0 w' R1 R2 u t S2 lo hi d a n ns := by
  obtain ⟨S1', g1, g2⟩ := hT
  have hd : ∀ k, S2 k → ¬ S1 k := fun k a b => h4 k b a
  refine ⟨g2.below h1 h1.size fun k hk => (HC.inb h2 k hk).1, h3.keep g2 hd, hD.keep fun k q1 q2 => g2.block k (by omega) fun e => o1 k e ⟨q1, q2⟩, Nat.le_trans hh g2.size, S1', g1, fun k a b => g2.apart hd (fun k hk => (h3.inb k hk).2) k b a, fun k hk q => ?_⟩
  rcases g2.sub k hk with e | e
  · exact o1 k e q
  · omega
theorem bothq_mk {EW : World → Prop} {P : World → Nat → Nat → (Nat → Prop) → Dom.T → Prop} (HC : DomC EW P) {w0 w w' : World} {R1 R2 : Nat} {t u : Dom.T} {S2 : Nat → Prop} {lo hi d : Nat} {a : Option Addr} {n : Nat} {ns : List Dom.N} (h : MiddQ P w0 w R1 R2 u t S2 lo hi d a n ns) (o2 : Off S2 lo hi) (hT : Turned w w' w0.heap.size R2 S2 u) : BothQ P w0 w' R1 R2 u lo hi d a n ns := by
  obtain ⟨h1, h3, hD, hh, S1, h2, h4, o1⟩ := h
  obtain ⟨S2', g1, g2⟩ := hT
  refine ⟨g2.below h1 h1.size fun k hk => (h3.inb k hk).1, hD.keep fun k q1 q2 => g2.block k (by omega) fun e => o2 k e ⟨q1, q2⟩, Nat.le_trans hh g2.size, S1, S2', HC.keep h2 g2 h4, g1, g2.apart h4 fun k hk => (HC.inb h2 k hk).2, o1, fun k hk q => ?_⟩
  rcases g2.sub k hk with e | e
  · exact o2 k e q
  · omega
theorem bothq_spoil {EW : World → Prop} {P : World → Nat → Nat → (Nat → Prop) → Dom.T → Prop} (HC : DomC EW P) {w0 w w' : World} {R1 R2 : Nat} {u : Dom.T} {lo hi d : Nat} {a : Option Addr} {n : Nat} {ns : List Dom.N} (h : BothQ P w0 w R1 R2 u lo hi d a n ns) (hlo : w0.heap.size ≤ lo) (hb : Below lo w w') (hk : ∀ k, hi ≤ k → w'.heap[k]? = w.heap[k]?) : Both P w0 w' R1 R2 u := by
  obtain ⟨h1, hD, hh, S1, S2, h2, h3, h4, o1, o2⟩ := h
  have T : Turn (fun k => lo ≤ k ∧ k < hi) (fun k => lo ≤ k ∧ k < hi) w w' := ⟨hb.os, hb.tape, hb.output, hb.size, fun k _ hn => by
    by_cases q : k < lo
    · exact hb.block k q
    · exact hk k (by
        apply Decidable.byContradiction
        intro q2
        exact hn ⟨by omega, by omega⟩), fun _ e => .inl e⟩
  exact ⟨T.below h1 h1.size fun k q => by omega, S1, S2, HC.keep h2 T o1, h3.keep T o2, h4⟩
/-- The only node of a list, as it lies. -/
theorem IsD.one {d : Nat} {w : World} {lo hi : Nat} {a : Option Addr} {y : Dom.N} (h : IsD (d + 1) w lo hi a 1 [y]) : ∃ b aa an ac ka kn kc, a = some ⟨b, 0, none⟩ ∧ w.cell? ⟨b, 0, none⟩ = some (.int .u8 y.kind) ∧ w.cell? ⟨b, 1, none⟩ = some (.int .u8 y.space) ∧ w.cell? ⟨b, 2, none⟩ = some (.string (bs y.name)) ∧ w.cell? ⟨b, 3, none⟩ = some (.slice aa an ac) ∧ w.cell? ⟨b, 4, none⟩ = some (.string (bs y.text)) ∧ w.cell? ⟨b, 5, none⟩ = some (.slice ka kn kc) ∧ IsA w aa an y.atts ∧ (aa = none → ac = 0) := by
  obtain ⟨b, cs, f, g, t, e, _, _, _, _, _, _, hat⟩ := h.2.resolve_left (by decide)
  obtain ⟨aa, an, ac, ka, kn, kc, X, _⟩ := hat 0 y rfl
  have c0 := X.c0
  have c1 := X.c1
  have c2 := X.c2
  have c3 := X.c3
  have c4 := X.c4
  have c5 := X.c5
  rw [Nat.zero_mul] at c0 c1 c2 c3 c4 c5
  rw [Nat.zero_add] at c1 c2 c3 c4 c5
  exact ⟨b, aa, an, ac, ka, kn, kc, e, c0, c1, c2, c3, c4, c5, X.atts, X.anil⟩
end Go.Proofs.Ythbklcpjbeelhaa
