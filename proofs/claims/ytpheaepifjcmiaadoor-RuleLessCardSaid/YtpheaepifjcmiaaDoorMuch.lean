/- Walks: how much a policy is; plain: what is little is short. -/
import Derived.Test.YtpheaepifjcmiaaDoorSamePol
namespace Go.Proofs.YtpheaepifjcmiaaDoor
open Go.RowKit Go.Lib Rule
set_option maxRecDepth 100000
set_option linter.unusedVariables false

/-- What came in: three lists, of which nothing is known but that they lie in memory. -/
structure PolIn (w : World) (a1 : Option Addr) (n1 c1 : Nat) (es : List (List UInt8)) (a2 : Option Addr) (n2 c2 : Nat) (ats : List (List UInt8 × List UInt8)) (a3 : Option Addr) (n3 c3 : Nat) (ss : List (List UInt8)) : Prop where
  is1 : IsS w a1 n1 es
  is2 : IsA w a2 n2 ats
  is3 : IsS w a3 n3 ss
  lc1 : n1 ≤ c1
  lc2 : n2 ≤ c2
  lc3 : n3 ≤ c3
  cm1 : c1 ≤ 9223372036854775807
  cm2 : c2 ≤ 9223372036854775807
  cm3 : c3 ≤ 9223372036854775807
  tx1 : ∀ l ∈ es, l.length ≤ 9223372036854775807
  tx2 : ∀ x ∈ ats, x.1.length ≤ 9223372036854775807 ∧ x.2.length ≤ 9223372036854775807
  tx3 : ∀ l ∈ ss, l.length ≤ 9223372036854775807
theorem PolIn.below {w w' : World} {a1 : Option Addr} {n1 c1 : Nat} {es : List (List UInt8)} {a2 : Option Addr} {n2 c2 : Nat} {ats : List (List UInt8 × List UInt8)} {a3 : Option Addr} {n3 c3 : Nat} {ss : List (List UInt8)}
    (h : PolIn w a1 n1 c1 es a2 n2 c2 ats a3 n3 c3 ss) (hb : Below w.heap.size w w') : PolIn w' a1 n1 c1 es a2 n2 c2 ats a3 n3 c3 ss :=
  { h with is1 := h.is1.below hb, is2 := h.is2.below hb, is3 := h.is3.below hb }
/-- All so far are short. -/
def ShortS (ls : List (List UInt8)) (k : Nat) : Prop := ∀ i l, i < k → ls[i]? = some l → l.length ≤ 100000
def ShortA (ls : List (List UInt8 × List UInt8)) (k : Nat) : Prop := ∀ i x, i < k → ls[i]? = some x → x.1.length ≤ 100000 ∧ x.2.length ≤ 100000
theorem ShortS.next {ls : List (List UInt8)} {k : Nat} {l : List UInt8} (h : ShortS ls k) (hl : ls[k]? = some l) (hs : l.length ≤ 100000) : ShortS ls (k + 1) := by
  intro i m hi hm
  by_cases e : i = k
  · subst e; rw [hl] at hm; injection hm with hm; rw [← hm]; exact hs
  · exact h i m (by omega) hm
theorem ShortA.next {ls : List (List UInt8 × List UInt8)} {k : Nat} {x : List UInt8 × List UInt8} (h : ShortA ls k) (hl : ls[k]? = some x) (hs : x.1.length ≤ 100000 ∧ x.2.length ≤ 100000) : ShortA ls (k + 1) := by
  intro i m hi hm
  by_cases e : i = k
  · subst e; rw [hl] at hm; injection hm with hm; rw [← hm]; exact hs
  · exact h i m (by omega) hm
/-- What 'much' says: it is so, or the policy is one that the walk can take. -/
def MuchE (w : World) (a1 : Option Addr) (n1 c1 : Nat) (es : List (List UInt8)) (a2 : Option Addr) (n2 c2 : Nat) (ats : List (List UInt8 × List UInt8)) (a3 : Option Addr) (n3 c3 : Nat) (ss : List (List UInt8)) (e : Ending) (w' : World) : Prop :=
  Below w.heap.size w w' ∧ ∃ b, e = .returned (.bool b) ∧ (b = false → PolW w a1 n1 c1 es a2 n2 c2 ats a3 n3 c3 ss)
/-- The count. -/
def CountE (w : World) (n1 : Nat) (es : List (List UInt8)) (n2 : Nat) (ats : List (List UInt8 × List UInt8)) (n3 : Nat) (ss : List (List UInt8)) (e : Ending) (w' : World) : Prop :=
  Below w.heap.size w w' ∧ ∃ t : Nat, e = .returned (.int .i64 t) ∧ (t ≤ 3000 → n1 ≤ 3000 ∧ n2 ≤ 3000 ∧ n3 ≤ 3000 ∧ ShortS es n1 ∧ ShortA ats n2 ∧ ShortS ss n3)

theorem count_end {w W wr : World} {n1 n2 n3 t0 t : Nat} {es : List (List UInt8)} {ats : List (List UInt8 × List UInt8)} {ss : List (List UInt8)} (hb0 : Below w.heap.size w W) (hb : Below W.heap.size W wr) (h0 : min n1 3001 + min n2 3001 + min n3 3001 = t0) (ht : t0 ≤ t)
    (h1 : t ≤ 3000 → ShortS es n1) (h2 : t ≤ 3000 → ShortA ats n2) (h3 : t ≤ 3000 → ShortS ss n3) : CountE w n1 es n2 ats n3 ss (.returned (.int .i64 (t : Nat))) wr :=
  ⟨hb0.trans (hb.mono hb0.size), t, rfl, fun h => ⟨by omega, by omega, by omega, h1 h, h2 h, h3 h⟩⟩
theorem much_no {w : World} {a1 : Option Addr} {n1 c1 : Nat} {es : List (List UInt8)} {a2 : Option Addr} {n2 c2 : Nat} {ats : List (List UInt8 × List UInt8)} {a3 : Option Addr} {n3 c3 : Nat} {ss : List (List UInt8)}
    (h : PolIn w a1 n1 c1 es a2 n2 c2 ats a3 n3 c3 ss) (hs : n1 ≤ 3000 ∧ n2 ≤ 3000 ∧ n3 ≤ 3000 ∧ ShortS es n1 ∧ ShortA ats n2 ∧ ShortS ss n3) : PolW w a1 n1 c1 es a2 n2 c2 ats a3 n3 c3 ss := by
  obtain ⟨s1, s2, s3, t1, t2, t3⟩ := hs
  refine ⟨h.is1, h.is2, h.is3, h.lc1, h.lc2, h.lc3, by have := h.cm1; omega, by have := h.cm2; omega, by have := h.cm3; omega, by omega, by omega, by omega, ?_, ?_, ?_⟩
  · intro l hl
    obtain ⟨i, hi⟩ := List.getElem?_of_mem hl
    have := t1 i l (by have := (List.getElem?_eq_some_iff.1 hi).1; have := h.is1.1; omega) hi
    omega
  · intro x hx
    obtain ⟨i, hi⟩ := List.getElem?_of_mem hx
    have := t2 i x (by have := (List.getElem?_eq_some_iff.1 hi).1; have := h.is2.1; omega) hi
    omega
  · intro l hl
    obtain ⟨i, hi⟩ := List.getElem?_of_mem hl
    have := t3 i l (by have := (List.getElem?_eq_some_iff.1 hi).1; have := h.is3.1; omega) hi
    omega
set_option maxHeartbeats 4000000 in
theorem count_any (a1 : Option Addr) (n1 c1 : Nat) (es : List (List UInt8)) (a2 : Option Addr) (n2 c2 : Nat) (ats : List (List UInt8 × List UInt8)) (a3 : Option Addr) (n3 c3 : Nat) (ss : List (List UInt8)) (w : World)
    (h : PolIn w a1 n1 c1 es a2 n2 c2 ats a3 n3 c3 ss) :
    Calls Tryd.prog 16 #[.agg #[.slice a1 n1 c1, .slice a2 n2 c2, .slice a3 n3 c3], .int .i64 3000] w (CountE w n1 es n2 ats n3 ss) := by
  have HH := hid h
  have b0 := hid ((Below.refl w.heap.size w).alloc (Nat.le_refl _) (.cells #[.slice a1 n1 c1, .slice a2 n2 c2, .slice a3 n3 c3] 25))
  have r0 : (w.alloc (.cells #[.slice a1 n1 c1, .slice a2 n2 c2, .slice a3 n3 c3] 25)).cell? ⟨w.heap.size, 0, none⟩ = some (.slice a1 n1 c1) := by simp
  have r1 : (w.alloc (.cells #[.slice a1 n1 c1, .slice a2 n2 c2, .slice a3 n3 c3] 25)).cell? ⟨w.heap.size, 1, none⟩ = some (.slice a2 n2 c2) := by simp
  have r2 : (w.alloc (.cells #[.slice a1 n1 c1, .slice a2 n2 c2, .slice a3 n3 c3] 25)).cell? ⟨w.heap.size, 2, none⟩ = some (.slice a3 n3 c3) := by simp
  have lc1 := h.lc1
  have lc2 := h.lc2
  have lc3 := h.lc3
  have cm1 := h.cm1
  have cm2 := h.cm2
  have cm3 := h.cm3
  clear h
  go_enter Tryd.func16, Tryd.ntmps16
  go_wp2
  obtain ⟨W, hW⟩ : ∃ W, w.alloc (.cells #[.slice a1 n1 c1, .slice a2 n2 c2, .slice a3 n3 c3] 25) = W := ⟨_, rfl⟩
  obtain ⟨P, hP⟩ : ∃ P, w.heap.size = P := ⟨_, rfl⟩
  rw [hW] at b0 r0 r1 r2 ⊢
  rw [hP] at r0 r1 r2 ⊢
  have HPp := hid hP
  have h0 : ∀ V, Below W.heap.size W V → V.cell? ⟨P, 0, none⟩ = some (.slice a1 n1 c1) := fun V hV => (hV.cell (p := ⟨P, 0, none⟩) (World.block_lt_of_cell? _ _ r0)).trans r0
  have h1 : ∀ V, Below W.heap.size W V → V.cell? ⟨P, 1, none⟩ = some (.slice a2 n2 c2) := fun V hV => (hV.cell (p := ⟨P, 1, none⟩) (World.block_lt_of_cell? _ _ r1)).trans r1
  have h2 : ∀ V, Below W.heap.size W V → V.cell? ⟨P, 2, none⟩ = some (.slice a3 n3 c3) := fun V hV => (hV.cell (p := ⟨P, 2, none⟩) (World.block_lt_of_cell? _ _ r2)).trans r2
  have HP1 := hid (HH.out.below b0.out)
  clear hW hP r0 r1 r2
  obtain ⟨t0, ht0⟩ : ∃ t0 : Nat, min n1 3001 + min n2 3001 + min n3 3001 = t0 := ⟨_, rfl⟩
  have e0 : (min (n1 : Int) 3001 + min (n2 : Int) 3001 + min (n3 : Int) 3001) = (t0 : Int) := by omega
  have HT0 := hid ht0
  have ht0b : t0 ≤ 9003 := by omega
  rw [e0]
  have hb : Below W.heap.size W W := Below.refl _ _
  clear e0 ht0
  go_loopg [5, 6] (n1 + 1) (fun g sv iv wr => ∃ k t : Nat, k + g = n1 + 1 ∧ k ≤ n1 ∧ t ≤ 2000000000000000000 ∧ iv = .int .i64 k ∧ sv = .int .i64 t ∧ Hid (t0 ≤ t) ∧ Hid (t ≤ 3000 → ShortS es k) ∧ Below W.heap.size W wr)
  case atStart => exact ⟨0, t0, by omega, by omega, by omega, rfl, rfl, hid (Nat.le_refl _), hid (fun _ i x hi => by omega), hb⟩
  case round =>
    clear hb
    obtain ⟨k, t1, hk, hkn, htb, rfl, rfl, hT1, hI, hb⟩ := hrel
    by_cases hlt : k < n1
    · have d1 : decide (k < n1) = true := decide_eq_true hlt
      have hltI : (k : Int) < (n1 : Int) := by omega
      by_cases hle : t1 ≤ 3000
      · have d2 : decide ((t1 : Int) ≤ 3000) = true := decide_eq_true (by omega)
        have hleI : (t1 : Int) ≤ 3000 := by omega
        have HB := hid (HP1.out.is1.below hb)
        obtain ⟨hll, z0 | ⟨blk, off, rfl, hat⟩⟩ := HB.out
        · omega
        have hkl : k < es.length := by omega
        obtain ⟨l, hl⟩ : ∃ l, es[k]? = some l := ⟨_, List.getElem?_eq_getElem hkl⟩
        have hcell : wr.cell? ⟨blk, off + k, none⟩ = some (.string (bs l)) := hat k _ hl
        have hsz := bs_size l
        have htx := HP1.out.tx1 l (List.mem_of_getElem? hl)
        have hss : (bs l).size ≤ 9223372036854775807 := by omega
        have HN := hid (fun (h : t1 + (bs l).size / 16 ≤ 3000) => (hI.out (by omega)).next hl (by omega))
        have HT := hid (show t0 ≤ t1 + (bs l).size / 16 by have := hT1.out; omega)
        generalize bs l = X at *
        clear hl hat hll hI hsz htx
        go_wp2
        go_roundg (n1 + 1 - (k + 1))
        case measure => omega
        case rel => exact ⟨k + 1, t1 + X.size / 16, by omega, by omega, by omega, by go_num, by go_num, HT, HN, hb⟩
      · have d2 : decide ((t1 : Int) ≤ 3000) = false := decide_eq_false (by omega)
        have hleI : ¬ (t1 : Int) ≤ 3000 := by omega
        have E1 := hid (show t1 ≤ 3000 → ShortS es n1 from fun h => by omega)
        clear hI
        go_wp2
        have hk1 := hid hk
        clear hk hlt d1 hltI hkn hle d2 hleI
        go_loopg [5, 7] (n2 + 1) (fun g sv iv wr => ∃ k t : Nat, k + g = n2 + 1 ∧ k ≤ n2 ∧ t ≤ 2000000000000000000 ∧ iv = .int .i64 k ∧ sv = .int .i64 t ∧ Hid (t1 ≤ t) ∧ Hid (t ≤ 3000 → ShortA ats k) ∧ Below W.heap.size W wr)
        case atStart => exact ⟨0, t1, by omega, by omega, by omega, rfl, rfl, hid (Nat.le_refl _), hid (fun _ i x hi => by omega), hb⟩
        case round =>
          clear hb
          obtain ⟨k, t2, hk, hkn, htb, rfl, rfl, hT2, hI, hb⟩ := hrel
          by_cases hlt : k < n2
          · have d1 : decide (k < n2) = true := decide_eq_true hlt
            have hltI : (k : Int) < (n2 : Int) := by omega
            by_cases hle : t2 ≤ 3000
            · have d2 : decide ((t2 : Int) ≤ 3000) = true := decide_eq_true (by omega)
              have hleI : (t2 : Int) ≤ 3000 := by omega
              have HB := hid (HP1.out.is2.below hb)
              obtain ⟨hll, z0 | ⟨blk, off, rfl, hat⟩⟩ := HB.out
              · omega
              have hkl : k < ats.length := by omega
              obtain ⟨⟨l, m⟩, hl⟩ : ∃ l, ats[k]? = some l := ⟨_, List.getElem?_eq_getElem hkl⟩
              obtain ⟨hcell, hcell2⟩ := hat k _ hl
              simp only at hcell hcell2
              have hsz := bs_size l
              have hsz2 := bs_size m
              have htx := HP1.out.tx2 (l, m) (List.mem_of_getElem? hl)
              simp only at htx
              have hss : (bs l).size ≤ 9223372036854775807 := by omega
              have hss2 : (bs m).size ≤ 9223372036854775807 := by omega
              have HN := hid (fun (h : t2 + ((bs l).size / 16 + (bs m).size / 16) ≤ 3000) => (hI.out (by omega)).next hl ⟨by show l.length ≤ _; omega, by show m.length ≤ _; omega⟩)
              have HT := hid (show t1 ≤ t2 + ((bs l).size / 16 + (bs m).size / 16) by have := hT2.out; omega)
              generalize bs l = X at *
              generalize bs m = Y at *
              obtain ⟨sx, hsx⟩ : ∃ sx : Nat, X.size / 16 = sx := ⟨_, rfl⟩
              obtain ⟨sy, hsy⟩ : ∃ sy : Nat, Y.size / 16 = sy := ⟨_, rfl⟩
              have hsxb : sx ≤ 576460752303423488 := by omega
              have hsyb : sy ≤ 576460752303423488 := by omega
              have qx : (X.size : Int) / 16 = (sx : Int) := by rw [← hsx]; rfl
              have qy : (Y.size : Int) / 16 = (sy : Int) := by rw [← hsy]; rfl
              rw [hsx, hsy] at HN HT
              clear hl hat hll hI hsz htx hsz2 hsx hsy
              go_wp2
              go_region
              go_wp2
              go_roundg (n2 + 1 - (k + 1))
              case measure => omega
              case rel => exact ⟨k + 1, t2 + (sx + sy), by omega, by omega, by omega, by go_num, by go_num, HT, HN, bel_drewN hb 1⟩
            · have d2 : decide ((t2 : Int) ≤ 3000) = false := decide_eq_false (by omega)
              have hleI : ¬ (t2 : Int) ≤ 3000 := by omega
              have E2 := hid (show t2 ≤ 3000 → ShortA ats n2 from fun h => by omega)
              clear hI
              go_wp2
              have hk2 := hid hk
              clear hk hlt d1 hltI hkn hle d2 hleI
              go_loopg [5, 8] (n3 + 1) (fun g sv iv wr => ∃ k t : Nat, k + g = n3 + 1 ∧ k ≤ n3 ∧ t ≤ 2000000000000000000 ∧ iv = .int .i64 k ∧ sv = .int .i64 t ∧ Hid (t2 ≤ t) ∧ Hid (t ≤ 3000 → ShortS ss k) ∧ Below W.heap.size W wr)
              case atStart => exact ⟨0, t2, by omega, by omega, by omega, rfl, rfl, hid (Nat.le_refl _), hid (fun _ i x hi => by omega), hb⟩
              case round =>
                clear hb
                obtain ⟨k, t3, hk, hkn, htb, rfl, rfl, hT3, hI, hb⟩ := hrel
                by_cases hlt : k < n3
                · have d1 : decide (k < n3) = true := decide_eq_true hlt
                  have hltI : (k : Int) < (n3 : Int) := by omega
                  by_cases hle : t3 ≤ 3000
                  · have d2 : decide ((t3 : Int) ≤ 3000) = true := decide_eq_true (by omega)
                    have hleI : (t3 : Int) ≤ 3000 := by omega
                    have HB := hid (HP1.out.is3.below hb)
                    obtain ⟨hll, z0 | ⟨blk, off, rfl, hat⟩⟩ := HB.out
                    · omega
                    have hkl : k < ss.length := by omega
                    obtain ⟨l, hl⟩ : ∃ l, ss[k]? = some l := ⟨_, List.getElem?_eq_getElem hkl⟩
                    have hcell : wr.cell? ⟨blk, off + k, none⟩ = some (.string (bs l)) := hat k _ hl
                    have hsz := bs_size l
                    have htx := HP1.out.tx3 l (List.mem_of_getElem? hl)
                    have hss : (bs l).size ≤ 9223372036854775807 := by omega
                    have HN := hid (fun (h : t3 + (bs l).size / 16 ≤ 3000) => (hI.out (by omega)).next hl (by omega))
                    have HT := hid (show t2 ≤ t3 + (bs l).size / 16 by have := hT3.out; omega)
                    generalize bs l = X at *
                    clear hl hat hll hI hsz htx
                    go_wp2
                    go_roundg (n3 + 1 - (k + 1))
                    case measure => omega
                    case rel => exact ⟨k + 1, t3 + X.size / 16, by omega, by omega, by omega, by go_num, by go_num, HT, HN, hb⟩
                  · have d2 : decide ((t3 : Int) ≤ 3000) = false := decide_eq_false (by omega)
                    have hleI : ¬ (t3 : Int) ≤ 3000 := by omega
                    have E3 := hid (show t3 ≤ 3000 → ShortS ss n3 from fun h => by omega)
                    clear hI
                    go_wp2
                    go_ret
                    exact count_end b0.out hb HT0.out (by have := hT1.out; have := hT2.out; have := hT3.out; omega) (fun h => E1.out (by have := hT2.out; have := hT3.out; omega)) (fun h => E2.out (by have := hT3.out; omega)) E3.out
                · have d1 : decide (k < n3) = false := decide_eq_false hlt
                  have hltI : ¬ (k : Int) < (n3 : Int) := by omega
                  have E3 := hid (show t3 ≤ 3000 → ShortS ss n3 from fun h => by have := hI.out h; rwa [show k = n3 by omega] at this)
                  clear hI
                  go_wp2
                  go_ret
                  exact count_end b0.out hb HT0.out (by have := hT1.out; have := hT2.out; have := hT3.out; omega) (fun h => E1.out (by have := hT2.out; have := hT3.out; omega)) (fun h => E2.out (by have := hT3.out; omega)) E3.out
          · have d1 : decide (k < n2) = false := decide_eq_false hlt
            have hltI : ¬ (k : Int) < (n2 : Int) := by omega
            have E2 := hid (show t2 ≤ 3000 → ShortA ats n2 from fun h => by have := hI.out h; rwa [show k = n2 by omega] at this)
            clear hI
            go_wp2
            have hk2 := hid hk
            clear hk hlt d1 hltI hkn
            go_loopg [5, 8] (n3 + 1) (fun g sv iv wr => ∃ k t : Nat, k + g = n3 + 1 ∧ k ≤ n3 ∧ t ≤ 2000000000000000000 ∧ iv = .int .i64 k ∧ sv = .int .i64 t ∧ Hid (t2 ≤ t) ∧ Hid (t ≤ 3000 → ShortS ss k) ∧ Below W.heap.size W wr)
            case atStart => exact ⟨0, t2, by omega, by omega, by omega, rfl, rfl, hid (Nat.le_refl _), hid (fun _ i x hi => by omega), hb⟩
            case round =>
              clear hb
              obtain ⟨k, t3, hk, hkn, htb, rfl, rfl, hT3, hI, hb⟩ := hrel
              by_cases hlt : k < n3
              · have d1 : decide (k < n3) = true := decide_eq_true hlt
                have hltI : (k : Int) < (n3 : Int) := by omega
                by_cases hle : t3 ≤ 3000
                · have d2 : decide ((t3 : Int) ≤ 3000) = true := decide_eq_true (by omega)
                  have hleI : (t3 : Int) ≤ 3000 := by omega
                  have HB := hid (HP1.out.is3.below hb)
                  obtain ⟨hll, z0 | ⟨blk, off, rfl, hat⟩⟩ := HB.out
                  · omega
                  have hkl : k < ss.length := by omega
                  obtain ⟨l, hl⟩ : ∃ l, ss[k]? = some l := ⟨_, List.getElem?_eq_getElem hkl⟩
                  have hcell : wr.cell? ⟨blk, off + k, none⟩ = some (.string (bs l)) := hat k _ hl
                  have hsz := bs_size l
                  have htx := HP1.out.tx3 l (List.mem_of_getElem? hl)
                  have hss : (bs l).size ≤ 9223372036854775807 := by omega
                  have HN := hid (fun (h : t3 + (bs l).size / 16 ≤ 3000) => (hI.out (by omega)).next hl (by omega))
                  have HT := hid (show t2 ≤ t3 + (bs l).size / 16 by have := hT3.out; omega)
                  generalize bs l = X at *
                  clear hl hat hll hI hsz htx
                  go_wp2
                  go_roundg (n3 + 1 - (k + 1))
                  case measure => omega
                  case rel => exact ⟨k + 1, t3 + X.size / 16, by omega, by omega, by omega, by go_num, by go_num, HT, HN, hb⟩
                · have d2 : decide ((t3 : Int) ≤ 3000) = false := decide_eq_false (by omega)
                  have hleI : ¬ (t3 : Int) ≤ 3000 := by omega
                  have E3 := hid (show t3 ≤ 3000 → ShortS ss n3 from fun h => by omega)
                  clear hI
                  go_wp2
                  go_ret
                  exact count_end b0.out hb HT0.out (by have := hT1.out; have := hT2.out; have := hT3.out; omega) (fun h => E1.out (by have := hT2.out; have := hT3.out; omega)) (fun h => E2.out (by have := hT3.out; omega)) E3.out
              · have d1 : decide (k < n3) = false := decide_eq_false hlt
                have hltI : ¬ (k : Int) < (n3 : Int) := by omega
                have E3 := hid (show t3 ≤ 3000 → ShortS ss n3 from fun h => by have := hI.out h; rwa [show k = n3 by omega] at this)
                clear hI
                go_wp2
                go_ret
                exact count_end b0.out hb HT0.out (by have := hT1.out; have := hT2.out; have := hT3.out; omega) (fun h => E1.out (by have := hT2.out; have := hT3.out; omega)) (fun h => E2.out (by have := hT3.out; omega)) E3.out
    · have d1 : decide (k < n1) = false := decide_eq_false hlt
      have hltI : ¬ (k : Int) < (n1 : Int) := by omega
      have E1 := hid (show t1 ≤ 3000 → ShortS es n1 from fun h => by have := hI.out h; rwa [show k = n1 by omega] at this)
      clear hI
      go_wp2
      have hk1 := hid hk
      clear hk hlt d1 hltI hkn
      go_loopg [5, 7] (n2 + 1) (fun g sv iv wr => ∃ k t : Nat, k + g = n2 + 1 ∧ k ≤ n2 ∧ t ≤ 2000000000000000000 ∧ iv = .int .i64 k ∧ sv = .int .i64 t ∧ Hid (t1 ≤ t) ∧ Hid (t ≤ 3000 → ShortA ats k) ∧ Below W.heap.size W wr)
      case atStart => exact ⟨0, t1, by omega, by omega, by omega, rfl, rfl, hid (Nat.le_refl _), hid (fun _ i x hi => by omega), hb⟩
      case round =>
        clear hb
        obtain ⟨k, t2, hk, hkn, htb, rfl, rfl, hT2, hI, hb⟩ := hrel
        by_cases hlt : k < n2
        · have d1 : decide (k < n2) = true := decide_eq_true hlt
          have hltI : (k : Int) < (n2 : Int) := by omega
          by_cases hle : t2 ≤ 3000
          · have d2 : decide ((t2 : Int) ≤ 3000) = true := decide_eq_true (by omega)
            have hleI : (t2 : Int) ≤ 3000 := by omega
            have HB := hid (HP1.out.is2.below hb)
            obtain ⟨hll, z0 | ⟨blk, off, rfl, hat⟩⟩ := HB.out
            · omega
            have hkl : k < ats.length := by omega
            obtain ⟨⟨l, m⟩, hl⟩ : ∃ l, ats[k]? = some l := ⟨_, List.getElem?_eq_getElem hkl⟩
            obtain ⟨hcell, hcell2⟩ := hat k _ hl
            simp only at hcell hcell2
            have hsz := bs_size l
            have hsz2 := bs_size m
            have htx := HP1.out.tx2 (l, m) (List.mem_of_getElem? hl)
            simp only at htx
            have hss : (bs l).size ≤ 9223372036854775807 := by omega
            have hss2 : (bs m).size ≤ 9223372036854775807 := by omega
            have HN := hid (fun (h : t2 + ((bs l).size / 16 + (bs m).size / 16) ≤ 3000) => (hI.out (by omega)).next hl ⟨by show l.length ≤ _; omega, by show m.length ≤ _; omega⟩)
            have HT := hid (show t1 ≤ t2 + ((bs l).size / 16 + (bs m).size / 16) by have := hT2.out; omega)
            generalize bs l = X at *
            generalize bs m = Y at *
            obtain ⟨sx, hsx⟩ : ∃ sx : Nat, X.size / 16 = sx := ⟨_, rfl⟩
            obtain ⟨sy, hsy⟩ : ∃ sy : Nat, Y.size / 16 = sy := ⟨_, rfl⟩
            have hsxb : sx ≤ 576460752303423488 := by omega
            have hsyb : sy ≤ 576460752303423488 := by omega
            have qx : (X.size : Int) / 16 = (sx : Int) := by rw [← hsx]; rfl
            have qy : (Y.size : Int) / 16 = (sy : Int) := by rw [← hsy]; rfl
            rw [hsx, hsy] at HN HT
            clear hl hat hll hI hsz htx hsz2 hsx hsy
            go_wp2
            go_region
            go_wp2
            go_roundg (n2 + 1 - (k + 1))
            case measure => omega
            case rel => exact ⟨k + 1, t2 + (sx + sy), by omega, by omega, by omega, by go_num, by go_num, HT, HN, bel_drewN hb 1⟩
          · have d2 : decide ((t2 : Int) ≤ 3000) = false := decide_eq_false (by omega)
            have hleI : ¬ (t2 : Int) ≤ 3000 := by omega
            have E2 := hid (show t2 ≤ 3000 → ShortA ats n2 from fun h => by omega)
            clear hI
            go_wp2
            have hk2 := hid hk
            clear hk hlt d1 hltI hkn hle d2 hleI
            go_loopg [5, 8] (n3 + 1) (fun g sv iv wr => ∃ k t : Nat, k + g = n3 + 1 ∧ k ≤ n3 ∧ t ≤ 2000000000000000000 ∧ iv = .int .i64 k ∧ sv = .int .i64 t ∧ Hid (t2 ≤ t) ∧ Hid (t ≤ 3000 → ShortS ss k) ∧ Below W.heap.size W wr)
            case atStart => exact ⟨0, t2, by omega, by omega, by omega, rfl, rfl, hid (Nat.le_refl _), hid (fun _ i x hi => by omega), hb⟩
            case round =>
              clear hb
              obtain ⟨k, t3, hk, hkn, htb, rfl, rfl, hT3, hI, hb⟩ := hrel
              by_cases hlt : k < n3
              · have d1 : decide (k < n3) = true := decide_eq_true hlt
                have hltI : (k : Int) < (n3 : Int) := by omega
                by_cases hle : t3 ≤ 3000
                · have d2 : decide ((t3 : Int) ≤ 3000) = true := decide_eq_true (by omega)
                  have hleI : (t3 : Int) ≤ 3000 := by omega
                  have HB := hid (HP1.out.is3.below hb)
                  obtain ⟨hll, z0 | ⟨blk, off, rfl, hat⟩⟩ := HB.out
                  · omega
                  have hkl : k < ss.length := by omega
                  obtain ⟨l, hl⟩ : ∃ l, ss[k]? = some l := ⟨_, List.getElem?_eq_getElem hkl⟩
                  have hcell : wr.cell? ⟨blk, off + k, none⟩ = some (.string (bs l)) := hat k _ hl
                  have hsz := bs_size l
                  have htx := HP1.out.tx3 l (List.mem_of_getElem? hl)
                  have hss : (bs l).size ≤ 9223372036854775807 := by omega
                  have HN := hid (fun (h : t3 + (bs l).size / 16 ≤ 3000) => (hI.out (by omega)).next hl (by omega))
                  have HT := hid (show t2 ≤ t3 + (bs l).size / 16 by have := hT3.out; omega)
                  generalize bs l = X at *
                  clear hl hat hll hI hsz htx
                  go_wp2
                  go_roundg (n3 + 1 - (k + 1))
                  case measure => omega
                  case rel => exact ⟨k + 1, t3 + X.size / 16, by omega, by omega, by omega, by go_num, by go_num, HT, HN, hb⟩
                · have d2 : decide ((t3 : Int) ≤ 3000) = false := decide_eq_false (by omega)
                  have hleI : ¬ (t3 : Int) ≤ 3000 := by omega
                  have E3 := hid (show t3 ≤ 3000 → ShortS ss n3 from fun h => by omega)
                  clear hI
                  go_wp2
                  go_ret
                  exact count_end b0.out hb HT0.out (by have := hT1.out; have := hT2.out; have := hT3.out; omega) (fun h => E1.out (by have := hT2.out; have := hT3.out; omega)) (fun h => E2.out (by have := hT3.out; omega)) E3.out
              · have d1 : decide (k < n3) = false := decide_eq_false hlt
                have hltI : ¬ (k : Int) < (n3 : Int) := by omega
                have E3 := hid (show t3 ≤ 3000 → ShortS ss n3 from fun h => by have := hI.out h; rwa [show k = n3 by omega] at this)
                clear hI
                go_wp2
                go_ret
                exact count_end b0.out hb HT0.out (by have := hT1.out; have := hT2.out; have := hT3.out; omega) (fun h => E1.out (by have := hT2.out; have := hT3.out; omega)) (fun h => E2.out (by have := hT3.out; omega)) E3.out
        · have d1 : decide (k < n2) = false := decide_eq_false hlt
          have hltI : ¬ (k : Int) < (n2 : Int) := by omega
          have E2 := hid (show t2 ≤ 3000 → ShortA ats n2 from fun h => by have := hI.out h; rwa [show k = n2 by omega] at this)
          clear hI
          go_wp2
          have hk2 := hid hk
          clear hk hlt d1 hltI hkn
          go_loopg [5, 8] (n3 + 1) (fun g sv iv wr => ∃ k t : Nat, k + g = n3 + 1 ∧ k ≤ n3 ∧ t ≤ 2000000000000000000 ∧ iv = .int .i64 k ∧ sv = .int .i64 t ∧ Hid (t2 ≤ t) ∧ Hid (t ≤ 3000 → ShortS ss k) ∧ Below W.heap.size W wr)
          case atStart => exact ⟨0, t2, by omega, by omega, by omega, rfl, rfl, hid (Nat.le_refl _), hid (fun _ i x hi => by omega), hb⟩
          case round =>
            clear hb
            obtain ⟨k, t3, hk, hkn, htb, rfl, rfl, hT3, hI, hb⟩ := hrel
            by_cases hlt : k < n3
            · have d1 : decide (k < n3) = true := decide_eq_true hlt
              have hltI : (k : Int) < (n3 : Int) := by omega
              by_cases hle : t3 ≤ 3000
              · have d2 : decide ((t3 : Int) ≤ 3000) = true := decide_eq_true (by omega)
                have hleI : (t3 : Int) ≤ 3000 := by omega
                have HB := hid (HP1.out.is3.below hb)
                obtain ⟨hll, z0 | ⟨blk, off, rfl, hat⟩⟩ := HB.out
                · omega
                have hkl : k < ss.length := by omega
                obtain ⟨l, hl⟩ : ∃ l, ss[k]? = some l := ⟨_, List.getElem?_eq_getElem hkl⟩
                have hcell : wr.cell? ⟨blk, off + k, none⟩ = some (.string (bs l)) := hat k _ hl
                have hsz := bs_size l
                have htx := HP1.out.tx3 l (List.mem_of_getElem? hl)
                have hss : (bs l).size ≤ 9223372036854775807 := by omega
                have HN := hid (fun (h : t3 + (bs l).size / 16 ≤ 3000) => (hI.out (by omega)).next hl (by omega))
                have HT := hid (show t2 ≤ t3 + (bs l).size / 16 by have := hT3.out; omega)
                generalize bs l = X at *
                clear hl hat hll hI hsz htx
                go_wp2
                go_roundg (n3 + 1 - (k + 1))
                case measure => omega
                case rel => exact ⟨k + 1, t3 + X.size / 16, by omega, by omega, by omega, by go_num, by go_num, HT, HN, hb⟩
              · have d2 : decide ((t3 : Int) ≤ 3000) = false := decide_eq_false (by omega)
                have hleI : ¬ (t3 : Int) ≤ 3000 := by omega
                have E3 := hid (show t3 ≤ 3000 → ShortS ss n3 from fun h => by omega)
                clear hI
                go_wp2
                go_ret
                exact count_end b0.out hb HT0.out (by have := hT1.out; have := hT2.out; have := hT3.out; omega) (fun h => E1.out (by have := hT2.out; have := hT3.out; omega)) (fun h => E2.out (by have := hT3.out; omega)) E3.out
            · have d1 : decide (k < n3) = false := decide_eq_false hlt
              have hltI : ¬ (k : Int) < (n3 : Int) := by omega
              have E3 := hid (show t3 ≤ 3000 → ShortS ss n3 from fun h => by have := hI.out h; rwa [show k = n3 by omega] at this)
              clear hI
              go_wp2
              go_ret
              exact count_end b0.out hb HT0.out (by have := hT1.out; have := hT2.out; have := hT3.out; omega) (fun h => E1.out (by have := hT2.out; have := hT3.out; omega)) (fun h => E2.out (by have := hT3.out; omega)) E3.out
set_option maxHeartbeats 1000000 in
theorem much_any (a1 : Option Addr) (n1 c1 : Nat) (es : List (List UInt8)) (a2 : Option Addr) (n2 c2 : Nat) (ats : List (List UInt8 × List UInt8)) (a3 : Option Addr) (n3 c3 : Nat) (ss : List (List UInt8)) (w : World)
    (h : PolIn w a1 n1 c1 es a2 n2 c2 ats a3 n3 c3 ss) :
    Calls Tryd.prog 7 #[.agg #[.slice a1 n1 c1, .slice a2 n2 c2, .slice a3 n3 c3]] w (MuchE w a1 n1 c1 es a2 n2 c2 ats a3 n3 c3 ss) := by
  have HH := hid h
  have b0 := hid ((Below.refl w.heap.size w).alloc (Nat.le_refl _) (.cells #[.slice a1 n1 c1, .slice a2 n2 c2, .slice a3 n3 c3] 25))
  clear h
  go_enter Tryd.func7, Tryd.ntmps7
  go_wp2_with fail
  refine (count_any a1 n1 c1 es a2 n2 c2 ats a3 n3 c3 ss _ (HH.out.below b0.out)).mono ?_
  rintro e w1 ⟨b1, t, rfl, ht⟩
  have ht := hid ht
  have c1 := hid (b0.out.trans (b1.mono b0.out.size))
  clear b1
  go_wp2
  go_ret
  exact ⟨c1.out, _, rfl, fun hb => much_no HH.out (ht.out (by have h' := of_decide_eq_false hb; omega))⟩
end Go.Proofs.YtpheaepifjcmiaaDoor
