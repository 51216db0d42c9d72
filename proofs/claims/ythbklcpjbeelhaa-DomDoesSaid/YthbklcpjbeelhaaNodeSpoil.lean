/- Walks: tympanref00.SpoilNodes. -/
import Derived.Test.YthbklcpjbeelhaaNodeLend
namespace Go.Proofs.Ythbklcpjbeelhaa
open Go.RowKit Go.Lib
set_option maxRecDepth 100000
set_option linter.unusedVariables false

/-- What SpoilNodes is known to do: nothing else is written over. -/
def SpoilC (d : Nat) : Prop := ∀ (lo hi : Nat) (ns : List Dom.N) (a : Option Addr) (n c : Nat) (w : World), IsD d w lo hi a n ns → Dom.sumW d ns ≤ 900000000 →
  Calls Try.prog 14 #[.slice a n c] w fun e w' => e = .returned (.tuple #[]) ∧ Below lo w w' ∧ ∀ k, hi ≤ k → w'.heap[k]? = w.heap[k]?
set_option maxHeartbeats 8000000 in
theorem spoil_zero : SpoilC 0 := by
  intro lo hi ns a n c w h hw
  obtain ⟨rfl, rfl⟩ := h
  clear hw
  go_enter Try.func14, Try.ntmps14
  go_wp2
  go_loopg [2] 0 (fun g iv wr => iv = .int .i64 0 ∧ wr = w)
  case atStart => exact ⟨rfl, rfl⟩
  case round =>
    obtain ⟨rfl, rfl⟩ := hrel
    go_wp2
    refine bodyPost_end (v := .tuple #[]) (by simp [results, Try.results14, go_sem]) rfl ?_
    exact ⟨rfl, Below.refl _ _, fun _ _ => rfl⟩
/-- A block that is known by its size alone. -/
def SzB (W : World) (b n : Nat) (T : TypeId) : Prop := ∃ cs, BlkW W b cs T ∧ cs.size = n
theorem SzB.at {W : World} {b n : Nat} {T : TypeId} (h : SzB W b n T) {i : Nat} (hi : i < n) : (∃ v, W.cell? ⟨b, i, none⟩ = some v) ∧ W.frozen? ⟨b, i, none⟩ = false := by
  obtain ⟨cs, h1, h2⟩ := h
  exact ⟨⟨cs[i]'(by omega), by rw [h1.cell i, Array.getElem?_eq_getElem (by omega)]⟩, h1.free i⟩
theorem SzB.set_ {W : World} {b n : Nat} {T : TypeId} (h : SzB W b n T) (i : Nat) (u : Value) : SzB (W.setCell ⟨b, i, none⟩ u) b n T := by
  obtain ⟨cs, h1, h2⟩ := h
  exact ⟨_, h1.set_ i u, by simpa using h2⟩
theorem SzB.keep {W W' : World} {b n : Nat} {T : TypeId} (h : SzB W b n T) (hk : W'.heap[b]? = W.heap[b]?) : SzB W' b n T := by
  obtain ⟨cs, h1, h2⟩ := h
  exact ⟨cs, hk.trans h1, h2⟩
theorem SzB.ge {W : World} {b n : Nat} {T : TypeId} (h : SzB W b n T) {i : Nat} {v : Value} (hc : W.cell? ⟨b, i, none⟩ = some v) : i < n := by
  obtain ⟨cs, h1, h2⟩ := h
  rw [h1.cell i] at hc
  have := (Array.getElem?_eq_some_iff.1 hc).1
  omega
/-- How the world stands before node k is written over. -/
structure SpI (w wr : World) (lo hi b S : Nat) (f t : Nat → Nat) (n k : Nat) : Prop where
  bel : Below lo w wr
  top : ∀ j, hi ≤ j → wr.heap[j]? = w.heap[j]?
  blk : ∀ i, k ≤ i → i < n → ∀ j, f i ≤ j → j < t i → wr.heap[j]? = w.heap[j]?
  row : ∀ o, k * 6 ≤ o → wr.cell? ⟨b, o, none⟩ = w.cell? ⟨b, o, none⟩
  sz : SzB wr b S 32
/-- A pair is written over. -/
theorem two_set (W : World) (b : Nat) (o : Nat) (u0 u1 : Value) {n : Nat} {T : TypeId} (h : SzB W b n T) {lo : Nat} {w : World} (hb : Below lo w W) (hlo : lo ≤ b) :
    ∃ W', (W.setCell ⟨b, o, none⟩ u0).setCell ⟨b, o + 1, none⟩ u1 = W' ∧ SzB W' b n T ∧ Below lo w W' ∧ ∀ k, k ≠ b → W'.heap[k]? = W.heap[k]? :=
  ⟨_, rfl, (h.set_ o u0).set_ (o + 1) u1, (hb.setCell hlo u0).setCell hlo u1, fun k hk => by rw [Below.heap_setCell _ _ _ _ hk, Below.heap_setCell _ _ _ _ hk]⟩
/-- A node is written over. -/
theorem six_set (W : World) (b : Nat) (o : Nat) (u0 u1 u2 u3 u4 u5 : Value) {n : Nat} {T : TypeId} (h : SzB W b n T) {lo : Nat} {w : World} (hb : Below lo w W) (hlo : lo ≤ b) :
    ∃ W', (((((W.setCell ⟨b, o, none⟩ u0).setCell ⟨b, o + 1, none⟩ u1).setCell ⟨b, o + 2, none⟩ u2).setCell ⟨b, o + 3, none⟩ u3).setCell ⟨b, o + 4, none⟩ u4).setCell ⟨b, o + 5, none⟩ u5 = W' ∧ SzB W' b n T ∧ Below lo w W' ∧ (∀ k, k ≠ b → W'.heap[k]? = W.heap[k]?) ∧ ∀ q, o + 6 ≤ q → W'.cell? ⟨b, q, none⟩ = W.cell? ⟨b, q, none⟩ :=
  ⟨_, rfl, (((((h.set_ o u0).set_ (o + 1) u1).set_ (o + 2) u2).set_ (o + 3) u3).set_ (o + 4) u4).set_ (o + 5) u5, (((((hb.setCell hlo u0).setCell hlo u1).setCell hlo u2).setCell hlo u3).setCell hlo u4).setCell hlo u5, fun k hk => by
    rw [Below.heap_setCell _ _ _ _ hk, Below.heap_setCell _ _ _ _ hk, Below.heap_setCell _ _ _ _ hk, Below.heap_setCell _ _ _ _ hk, Below.heap_setCell _ _ _ _ hk, Below.heap_setCell _ _ _ _ hk], fun q hq => by
    have ne : ∀ i, i < 6 → (⟨b, o + i, none⟩ : Addr) ≠ ⟨b, q, none⟩ := fun i hi e => by injection e; omega
    rw [World.cell?_setCell_other (h := ne 5 (by omega)), World.cell?_setCell_other (h := ne 4 (by omega)), World.cell?_setCell_other (h := ne 3 (by omega)), World.cell?_setCell_other (h := ne 2 (by omega)), World.cell?_setCell_other (h := ne 1 (by omega)), World.cell?_setCell_other (h := fun e => by injection e; omega)]⟩
set_option maxHeartbeats 8000000 in
theorem spoil_succ (d : Nat) (IH : SpoilC d) : SpoilC (d + 1) := by
  intro lo hi ns a n c w h hw
  have hlen : ns.length = n := h.1
  have hn : n ≤ 900000000 := by have := Dom.sumW_len d ns; omega
  have HIH := hid IH
  by_cases h0 : n = 0
  · subst h0
    clear h hlen hw HIH IH
    go_enter Try.func14, Try.ntmps14
    go_wp2
    go_loopg [2] 0 (fun g iv wr => iv = .int .i64 0 ∧ wr = w)
    case atStart => exact ⟨rfl, rfl⟩
    case round =>
      obtain ⟨rfl, rfl⟩ := hrel
      go_wp2
      refine bodyPost_end (v := .tuple #[]) (by simp [results, Try.results14, go_sem]) rfl ?_
      exact ⟨rfl, Below.refl _ _, fun _ _ => rfl⟩
  obtain ⟨b, cs, f, g, t, rfl, hB, h1, h2, h3, h4, h5, hat⟩ := h.2.resolve_left h0
  have HM := hid (show ∀ i j, i ≤ j → j ≤ n → f i ≤ f j from fun i j hij hj => mono_le (f := f) (n := n) (fun i hi => by have := h5 i hi; omega) hij hj)
  have H5 := hid h5
  have HAT := hid hat
  have HLN := hid hlen
  have HSZ : SzB w b cs.size 32 := ⟨cs, hB, rfl⟩
  have HSG := hid HSZ
  have HW := hid hw
  have I0 := hid (show SpI w w lo hi b cs.size f t n 0 from ⟨Below.refl _ _, fun _ _ => rfl, fun _ _ _ _ _ _ => rfl, fun _ _ => rfl, HSZ⟩)
  clear h hlen hat h5 hB HSZ IH hw
  generalize cs.size = S at *
  go_enter Try.func14, Try.ntmps14
  go_wp2
  go_loopg [2] n (fun gh iv wr => ∃ k : Nat, k + gh = n ∧ iv = .int .i64 k ∧ Hid (SpI w wr lo hi b S f t n k))
  case atStart => exact ⟨0, by omega, rfl, I0⟩
  case round =>
    obtain ⟨k, hk, rfl, hI⟩ := hrel
    by_cases hlt : k < n
    · have d1 : decide (k < n) = true := decide_eq_true hlt
      have hltI : (k : Int) < (n : Int) := by omega
      obtain ⟨x, hx⟩ : ∃ x, ns[k]? = some x := ⟨_, List.getElem?_eq_getElem (by have := HLN.out; omega)⟩
      obtain ⟨aa, an, ac, ka, kn, kc, X, Y⟩ := HAT.out k x hx
      obtain ⟨m1, m2, m6, m3⟩ := H5.out k hlt
      have m4 := HM.out 0 k (Nat.zero_le k) (show k ≤ n by omega)
      have m5 := HM.out (k + 1) n (show k + 1 ≤ n by omega) (Nat.le_refl n)
      have x5 := (hI.out.row (k * 6 + 5) (by omega)).trans X.c5
      have x3 := (hI.out.row (k * 6 + 3) (by omega)).trans X.c3
      have hwx := Dom.sumW_mem (d := d) (List.mem_of_getElem? hx)
      have hwl := HW.out
      have hax := Dom.sumA_len x.atts
      have KD := X.kids.keep (w' := wr) (fun j q1 q2 => hI.out.blk k (Nat.le_refl k) hlt j (by omega) q2)
      have SK := hid (HIH.out (g k) (t k) x.kids ka kn kc wr KD (by omega))
      have HX := hid X
      have HY := hid Y
      have han : an ≤ 900000000 := by have := X.atts.1; omega
      have hS6 : k * 6 + 5 < S := HSG.out.ge X.c5
      clear X Y hx hwx hwl hax KD
      go_wp2_with fail
      refine (SK.out).mono ?_
      rintro e w1 ⟨rfl, hb1, ht1⟩
      have hbb : w1.heap[b]? = wr.heap[b]? := by
        rcases m3 with q | q
        · exact hb1.block b (by omega)
        · exact ht1 b q
      have c3 : w1.cell? ⟨b, k * 6 + 3, none⟩ = some (.slice aa an ac) := (World.cell?_of_block (a := ⟨b, k * 6 + 3, none⟩) hbb).trans x3
      have S1 := hid (hI.out.sz.keep hbb)
      have HB1 := hid (hI.out.bel.trans (hb1.mono (by omega)))
      have HT1 := hid ht1
      have HBB := hid hbb
      have HB0 := hid hb1
      clear hb1 ht1 hbb x5 x3 SK
      go_wp2
      go_loopg [3] an (fun gh iv W => ∃ q : Nat, q + gh = an ∧ iv = .int .i64 q ∧ Hid (Below lo w W ∧ (∀ j, (j < f k ∨ g k ≤ j) → W.heap[j]? = w1.heap[j]?) ∧ (an = 0 ∨ ∃ ab s, aa = some ⟨ab, 0, none⟩ ∧ f k ≤ ab ∧ ab < g k ∧ SzB W ab s 67 ∧ an * 2 ≤ s)))
      case atStart =>
        refine ⟨0, by omega, rfl, hid ⟨HB1.out, fun _ _ => rfl, ?_⟩⟩
        rcases HY.out with q | ⟨ab, cs2, e, hbk⟩
        · exact .inl q
        by_cases z : an = 0
        · exact .inl z
        refine .inr ⟨ab, cs2.size, e, ?_⟩
        have hin : f k ≤ ab ∧ ab < g k := HX.out.inS.resolve_left z _ e
        have hsame : w1.heap[ab]? = w.heap[ab]? := (HB0.out.block ab hin.2).trans (hI.out.blk k (Nat.le_refl k) hlt ab hin.1 (by have := hin.2; omega))
        refine ⟨hin.1, hin.2, ⟨cs2, hsame.trans hbk, rfl⟩, ?_⟩
        obtain ⟨b3, o3, e3, hcl⟩ := HX.out.atts.2.resolve_left z
        rw [e] at e3
        cases e3
        have hal := HX.out.atts.1
        obtain ⟨p, hp⟩ : ∃ p, x.atts[an - 1]? = some p := ⟨_, List.getElem?_eq_getElem (by omega)⟩
        have := (hcl (an - 1) p hp).2
        have := (show SzB w ab cs2.size 67 from ⟨cs2, hbk, rfl⟩).ge this
        omega
      case round =>
        obtain ⟨q, hq, rfl, hJ⟩ := hrel
        have hJb : wr.heap[b]? = w1.heap[b]? := hJ.out.2.1 b (by omega)
        have c3' : wr.cell? ⟨b, k * 6 + 3, none⟩ = some (.slice aa an ac) := (World.cell?_of_block (a := ⟨b, k * 6 + 3, none⟩) hJb).trans c3
        by_cases hl2 : q < an
        · have d2 : decide (q < an) = true := decide_eq_true hl2
          have hl2I : (q : Int) < (an : Int) := by omega
          obtain ⟨BL, KS, z | ⟨ab, s, rfl, r1, r2, hs, r3⟩⟩ := hJ.out
          · omega
          obtain ⟨⟨u0, hu0⟩, fz0⟩ := hs.at (i := q * 2) (by omega)
          obtain ⟨⟨u1, hu1⟩, fz1⟩ := hs.at (i := q * 2 + 1) (by omega)
          obtain ⟨W', hW', t1, t2, t3⟩ := two_set wr ab (q * 2) (.string ⟨#[115, 112, 111, 105, 108, 116]⟩) (.string ⟨#[115, 112, 111, 105, 108, 116]⟩) hs BL (by omega)
          have HW' := hid hW'
          have HJ' := hid (show Below lo w W' ∧ (∀ j, (j < f k ∨ g k ≤ j) → W'.heap[j]? = w1.heap[j]?) ∧ (an = 0 ∨ ∃ ab' s, (some ⟨ab, 0, none⟩ : Option Addr) = some ⟨ab', 0, none⟩ ∧ f k ≤ ab' ∧ ab' < g k ∧ SzB W' ab' s 67 ∧ an * 2 ≤ s) from
            ⟨t2, fun j hj => (t3 j (by omega)).trans (KS j hj), .inr ⟨ab, s, rfl, r1, r2, t1, r3⟩⟩)
          clear BL KS hs hW' t1 t2 t3 hJb hJ
          go_wp2
          go_roundg (an - (q + 1))
          case measure => omega
          case rel => exact ⟨q + 1, by omega, by go_num, by rw [HW'.out]; exact HJ'⟩
        · have d2 : decide (q < an) = false := decide_eq_false hl2
          have hl2I : ¬ (q : Int) < (an : Int) := by omega
          obtain ⟨BL, KS, _⟩ := hJ.out
          have SB := S1.out.keep hJb
          obtain ⟨⟨u0, hu0⟩, fz0⟩ := SB.at (i := k * 6) (by omega)
          obtain ⟨⟨u1, hu1⟩, fz1⟩ := SB.at (i := k * 6 + 1) (by omega)
          obtain ⟨⟨u2, hu2⟩, fz2⟩ := SB.at (i := k * 6 + 2) (by omega)
          obtain ⟨⟨u3, hu3⟩, fz3⟩ := SB.at (i := k * 6 + 3) (by omega)
          obtain ⟨⟨u4, hu4⟩, fz4⟩ := SB.at (i := k * 6 + 4) (by omega)
          obtain ⟨⟨u5, hu5⟩, fz5⟩ := SB.at (i := k * 6 + 5) (by omega)
          obtain ⟨W', hW', t1, t2, t3, t4⟩ := six_set wr b (k * 6) (.int .u8 2) (.int .u8 0) (.string ⟨#[]⟩) (.slice none 0 0) (.string ⟨#[115, 112, 111, 105, 108, 116]⟩) (.slice none 0 0) SB BL h1
          have HW' := hid hW'
          have HI' : Hid (SpI w W' lo hi b S f t n (k + 1)) := hid (by
            refine ⟨t2, fun j hj => ?_, fun i hi1 hi2 j hj1 hj2 => ?_, fun o ho => ?_, t1⟩
            · rw [t3 j (by omega), KS j (.inr (by omega)), HT1.out j (by omega), hI.out.top j hj]
            · have e1 := H5.out i hi2
              have e2 := HM.out (k + 1) i hi1 (by omega)
              rw [t3 j (by omega), KS j (.inr (by omega)), HT1.out j (by omega), hI.out.blk i (by omega) hi2 j hj1 hj2]
            · rw [t4 o (by omega), ← hI.out.row o (by omega)]
              exact World.cell?_of_block (a := ⟨b, o, none⟩) (hJb.trans HBB.out))
          clear BL KS SB hW' t1 t2 t3 t4 hJb hJ hu3
          go_wp2
          go_roundg (n - (k + 1))
          case measure => omega
          case rel => exact ⟨k + 1, by omega, by go_num, by rw [HW'.out]; exact HI'⟩
    · have d1 : decide (k < n) = false := decide_eq_false hlt
      have hltI : ¬ (k : Int) < (n : Int) := by omega
      have HR := hid (And.intro hI.out.bel hI.out.top)
      clear hI
      go_wp2
      refine bodyPost_end (v := .tuple #[]) (by simp [results, Try.results14, go_sem]) rfl ?_
      exact ⟨rfl, HR.out.1, HR.out.2⟩
theorem spoil_any : ∀ d, SpoilC d
  | 0 => spoil_zero
  | d + 1 => spoil_succ d (spoil_any d)
end Go.Proofs.Ythbklcpjbeelhaa
