/- Walks over what the statements of layer 13 and later share: how much one token weighs: where it is little, the token is small. A list of calls (package tympanlaw13's Op) in memory; whether it is more than is looked at. -/
import Derived.Test.YtlgmjnnfndedbaaMarkM
import Derived.Test.YtlgmjnnfndedbaaAppT
import Derived.Test.YtlgmjnnfndedbaaNodeM
import Derived.Deep.LoopGhost
import Derived.IntWalk
namespace Go.Proofs.Ytlgmjnnfndedbaa
open Go.RowKit Go.Lib
set_option maxRecDepth 100000
set_option linter.unusedVariables false
/-- A token with little text and few attributes. -/
def SmallT (nm tx : ByteArray) (atts : List (List UInt8 × List UInt8)) : Prop := tx.size ≤ 3207 ∧ nm.size ≤ 3207 ∧ atts.length ≤ 400 ∧ (∀ p ∈ atts, p.1.length ≤ 3207 ∧ p.2.length ≤ 3207) ∧ 1 + tx.size / 8 + nm.size / 8 + Dom.sumA atts ≤ 400
theorem sumA_snoc (l : List (List UInt8 × List UInt8)) (x : List UInt8 × List UInt8) : Dom.sumA (l ++ [x]) = Dom.sumA l + (1 + x.1.length / 8 + x.2.length / 8) := by
  induction l with
  | nil => simp [Dom.sumA]
  | cons y r ih => simp only [List.cons_append, Dom.sumA, ih]; omega
def TokW (nm tx : ByteArray) (atts : List (List UInt8 × List UInt8)) (e : Ending) : Prop := ∃ z : Nat, e = .returned (.int .i64 z) ∧ 1 ≤ z ∧ z ≤ 1152921504606846976 ∧ (z ≤ 400 → SmallT nm tx atts)
set_option maxHeartbeats 16000000 in
theorem toks_any (kd : Int) (nm tx : ByteArray) (cl : Bool) (aa : Option Addr) (an ac : Nat) (atts : List (List UInt8 × List UInt8)) (g0 : Nat) (w : World) (h : BlkW w g0 #[.int .u8 kd, .string nm, .slice aa an ac, .bool cl, .string tx] 31) (hA : IsA w aa an atts)
    (s1 : nm.size ≤ 281474976710656) (s2 : tx.size ≤ 281474976710656) (s3 : an ≤ 17592186044416) (s4 : ∀ p ∈ atts, p.1.length ≤ 281474976710656 ∧ p.2.length ≤ 281474976710656) :
    Calls Try.prog 30 #[.slice (some ⟨g0, 0, none⟩) 1 1, .int .i64 400] w fun e w' => TokW nm tx atts e ∧ Below w.heap.size w w' := by
  have HB := hid h
  have HA := hid fun V (hV : Below w.heap.size w V) => hA.below hV
  have HLN := hid s4
  have hal := hA.1
  clear h hA s4
  go_enter Try.func30, Try.ntmps30
  go_wp2
  go_loopg [5, 6] 1 (fun g sv iv wr => ∃ (k z : Nat), k + g = 1 ∧ iv = .int .i64 k ∧ sv = .int .i64 z ∧ z ≤ 1152921504606846976 ∧ Hid (k = 0 → z = 0) ∧ Hid (k = 1 → 1 ≤ z ∧ (z ≤ 400 → SmallT nm tx atts)) ∧ Below w.heap.size w wr)
  case atStart => exact ⟨0, 0, by omega, rfl, rfl, by omega, hid fun _ => rfl, hid fun e => by omega, Below.refl _ _⟩
  case round =>
    obtain ⟨k, z, hk, rfl, rfl, hzb, hZ0, hZ1, hb⟩ := hrel
    by_cases hlt : k < 1
    · obtain rfl : k = 0 := by omega
      obtain rfl : z = 0 := hZ0.out rfl
      rw [show ((0 : Nat) : Int) = 0 from rfl]
      have k3 := HB.out.below hb HB.out.lt
      have c1 := k3.cell 1
      have c2 := k3.cell 2
      have c4 := k3.cell 4
      simp only [List.getElem?_toArray, List.getElem?_cons_zero, List.getElem?_cons_succ] at c1 c2 c4
      clear k3 hZ0 hZ1 hzb
      go_wp2
      go_quiet (fail)
      go_wp2
      have hb5 : Below w.heap.size w (wr.drewN nq) := bel_drewN hb _
      clear c1 c2 c4 hb
      obtain ⟨B, hB⟩ : ∃ B, 1 + tx.size / 8 + nm.size / 8 = B := ⟨_, rfl⟩
      have hBb : B ≤ 70368744200000 := by omega
      have HBB := hid hB
      go_loopg [5, 7] an (fun g sv iv wr => ∃ (j y : Nat), j + g = an ∧ iv = .int .i64 j ∧ sv = .int .i64 y ∧ y ≤ 70368744200000 ∧ Hid (y = B + Dom.sumA (atts.take j)) ∧ Below w.heap.size w wr)
      case atStart => exact ⟨0, B, by omega, by go_num, by rw [← hB]; go_num, hBb, hid (by rw [List.take_zero]; simp [Dom.sumA]), hb5⟩
      case round =>
        clear hb5 hB
        obtain ⟨j, y, hj, rfl, rfl, hyb, hY, hb⟩ := hrel
        have q2 := (HB.out.below hb HB.out.lt).cell 2
        simp only [List.getElem?_toArray, List.getElem?_cons_zero, List.getElem?_cons_succ] at q2
        by_cases hlt2 : j < an
        · have d5 : decide (j < an) = true := decide_eq_true hlt2
          have hltI2 : (j : Int) < (an : Int) := by omega
          by_cases hy : y ≤ 400
          · have d6 : decide ((y : Int) ≤ 400) = true := decide_eq_true (by omega)
            have d6' : (y : Int) ≤ 400 := by omega
            obtain ⟨_, z0 | ⟨ab, ao, rfl, hau⟩⟩ := HA.out wr hb
            · omega
            obtain ⟨p, hp⟩ : ∃ p, atts[j]? = some p := ⟨_, List.getElem?_eq_getElem (by omega)⟩
            obtain ⟨e0, e1⟩ := hau j p hp
            have hps := HLN.out p (List.mem_of_getElem? hp)
            have t1 : (bs p.1).size ≤ 281474976710656 := hps.1
            have t2 : (bs p.2).size ≤ 281474976710656 := hps.2
            have HNX := hid (show ∀ y', y' = y + (1 + (bs p.1).size / 8 + (bs p.2).size / 8) → y' = B + Dom.sumA (atts.take (j + 1)) from fun y' hy' => by
              have hq := hY.out
              have r1 : (bs p.1).size = p.1.length := rfl
              have r2 : (bs p.2).size = p.2.length := rfl
              rw [List.take_add_one, hp, Option.toList_some, sumA_snoc]
              omega)
            generalize bs p.1 = Y1 at *
            generalize bs p.2 = Y2 at *
            clear hau hp hps hY
            go_wp2
            go_quiet (fail)
            go_wp2
            go_roundg (an - (j + 1))
            case measure => omega
            case rel => exact ⟨j + 1, y + (1 + Y1.size / 8 + Y2.size / 8), by omega, by go_num, by go_num, by omega, hid (HNX.out _ rfl), bel_drewN hb _⟩
          · have d6 : decide ((y : Int) ≤ 400) = false := decide_eq_false (by omega)
            have d6' : ¬ (y : Int) ≤ 400 := by omega
            go_wp2
            go_roundg (1 - (0 + 1))
            case measure => omega
            case rel => exact ⟨1, y, by omega, by go_num, rfl, by omega, hid fun e => by omega, hid fun _ => ⟨by have := hY.out; have := HBB.out; omega, fun e => by omega⟩, hb⟩
        · have d5 : decide (j < an) = false := decide_eq_false hlt2
          have hltI2 : ¬ (j : Int) < (an : Int) := by omega
          go_wp2
          go_roundg (1 - (0 + 1))
          case measure => omega
          case rel =>
            refine ⟨1, y, by omega, by go_num, rfl, by omega, hid fun e => by omega, hid fun _ => ⟨by have := hY.out; have := HBB.out; omega, fun e => ?_⟩, hb⟩
            have hq := hY.out
            have hB := HBB.out
            rw [List.take_of_length_le (by omega)] at hq
            have hl := Dom.sumA_len atts
            refine ⟨by omega, by omega, by omega, fun p hp => ?_, by omega⟩
            have := Dom.sumA_mem hp
            omega
    · obtain rfl : k = 1 := by omega
      have HR := hid (show TokW nm tx atts (.returned (.int .i64 z)) from ⟨z, rfl, (hZ1.out rfl).1, hzb, (hZ1.out rfl).2⟩)
      rw [show ((1 : Nat) : Int) = 1 from rfl]
      have HBB := hid hb
      clear hZ0 hZ1 hb
      go_wp2
      go_ret
      exact ⟨HR.out, HBB.out⟩
end Go.Proofs.Ytlgmjnnfndedbaa
namespace Go.Proofs.Ytlgmjnnfndedbaa
open Go.RowKit Go.Lib
set_option maxRecDepth 100000
set_option linter.unusedVariables false
structure POp where
  kind : Nat
  space : Nat
  tk : Nat
  nm : List UInt8
  atts : List (List UInt8 × List UInt8)
  cl : Bool
  tx : List UInt8
  n : Int
  yes : Bool
/-- One of them: its nine cells from off on. -/
structure POpAt (w : World) (b off : Nat) (x : POp) (aa : Option Addr) (an ac : Nat) : Prop where
  k0 : w.cell? ⟨b, off, none⟩ = some (.int .u8 x.kind)
  k1 : w.cell? ⟨b, off + 1, none⟩ = some (.int .u8 x.space)
  t0 : w.cell? ⟨b, off + 2, none⟩ = some (.int .u8 x.tk)
  t1 : w.cell? ⟨b, off + 2 + 1, none⟩ = some (.string (bs x.nm))
  t2 : w.cell? ⟨b, off + 2 + 2, none⟩ = some (.slice aa an ac)
  t3 : w.cell? ⟨b, off + 2 + 3, none⟩ = some (.bool x.cl)
  t4 : w.cell? ⟨b, off + 2 + 4, none⟩ = some (.string (bs x.tx))
  n7 : w.cell? ⟨b, off + 7, none⟩ = some (.int .i64 x.n)
  y8 : w.cell? ⟨b, off + 8, none⟩ = some (.bool x.yes)
  atts : IsA w aa an x.atts
  nil : aa = none → ac = 0
  cap : an ≤ ac
  cap2 : ac ≤ 9223372036854775807
theorem POpAt.below {w w' : World} {b off : Nat} {x : POp} {aa : Option Addr} {an ac : Nat} (h : POpAt w b off x aa an ac) (hb : Below w.heap.size w w') : POpAt w' b off x aa an ac :=
  ⟨cell_up h.k0 hb, cell_up h.k1 hb, cell_up h.t0 hb, cell_up h.t1 hb, cell_up h.t2 hb, cell_up h.t3 hb, cell_up h.t4 hb, cell_up h.n7 hb, cell_up h.y8 hb, h.atts.below hb, h.nil, h.cap, h.cap2⟩
def IsPops (w : World) (a : Option Addr) (n : Nat) (os : List POp) : Prop :=
  os.length = n ∧ (n = 0 ∨ ∃ b off, a = some ⟨b, off, none⟩ ∧ ∀ (i : Nat) x, os[i]? = some x → ∃ aa an ac, POpAt w b (off + i * 9) x aa an ac)
theorem IsPops.below {w w' : World} {a : Option Addr} {n : Nat} {os : List POp} (h : IsPops w a n os) (hb : Below w.heap.size w w') : IsPops w' a n os :=
  ⟨h.1, h.2.imp (fun e => e) fun ⟨b, off, e, hat⟩ => ⟨b, off, e, fun i x hx => by
    obtain ⟨aa, an, ac, X⟩ := hat i x hx
    exact ⟨aa, an, ac, X.below hb⟩⟩⟩
/-- Its texts and lists are such as lie in memory. -/
def POp.Sized (x : POp) : Prop := x.nm.length ≤ 281474976710656 ∧ x.tx.length ≤ 281474976710656 ∧ x.atts.length ≤ 17592186044416 ∧ ∀ p ∈ x.atts, p.1.length ≤ 281474976710656 ∧ p.2.length ≤ 281474976710656
/-- It is small. -/
def POp.Small (x : POp) : Prop := x.tx.length ≤ 3207 ∧ x.nm.length ≤ 3207 ∧ x.atts.length ≤ 400 ∧ (∀ p ∈ x.atts, p.1.length ≤ 3207 ∧ p.2.length ≤ 3207) ∧ 1 + x.tx.length / 8 + x.nm.length / 8 + Dom.sumA x.atts ≤ 400
def HeavyE (n : Nat) (os : List POp) (e : Ending) : Prop := ∃ b, e = .returned (.bool b) ∧ (b = false → n ≤ 100 ∧ ∀ x ∈ os, x.Small)
set_option maxHeartbeats 16000000 in
theorem pheavy_any (a : Option Addr) (n c : Nat) (os : List POp) (w : World) (h : IsPops w a n os) (hz : ∀ x ∈ os, x.Sized) (hn : n ≤ 281474976710656) :
    Calls Try.prog 6 #[.slice a n c] w fun e w' => HeavyE n os e ∧ Below w.heap.size w w' := by
  have HH := hid h
  have HZ := hid hz
  have hl := h.1
  clear h hz
  go_enter Try.func6, Try.ntmps6
  go_wp2
  go_loopg [3, 4] n (fun g sv iv wr => ∃ (k z : Nat), k + g = n ∧ iv = .int .i64 k ∧ sv = .int .i64 z ∧ z ≤ 1152921504606900000 ∧ Hid (n ≤ z ∧ (z ≤ 400 → ∀ (i : Nat) x, i < k → os[i]? = some x → x.Small)) ∧ Below w.heap.size w wr)
  case atStart => exact ⟨0, n, by omega, rfl, rfl, by omega, hid ⟨Nat.le_refl _, fun _ i x hi => by omega⟩, Below.refl _ _⟩
  case round =>
    obtain ⟨k, z, hk, rfl, rfl, hzb, hZ, hb⟩ := hrel
    by_cases hy : z ≤ 400
    · have d2 : decide ((z : Int) ≤ 400) = true := decide_eq_true (by omega)
      have d2' : (z : Int) ≤ 400 := by omega
      have d3 : decide ((400 : Int) < (z : Int)) = false := decide_eq_false (by omega)
      have d3' : ¬ (400 : Int) < (z : Int) := by omega
      by_cases hlt : k < n
      · have d1 : decide (k < n) = true := decide_eq_true hlt
        have hltI : (k : Int) < (n : Int) := by omega
        obtain ⟨_, z0 | ⟨blk, off, rfl, hat⟩⟩ := HH.out.below hb
        · omega
        obtain ⟨x, hx⟩ : ∃ x, os[k]? = some x := ⟨_, List.getElem?_eq_getElem (by omega)⟩
        obtain ⟨aa, an, ac, X⟩ := hat k x hx
        obtain ⟨k0, k1, t0, t1, t2, t3, t4, n7, y8, hA, _, _, _⟩ := X
        have sz := HZ.out x (List.mem_of_getElem? hx)
        have ba := (Below.refl wr.heap.size wr).alloc (Nat.le_refl _) (.cells #[.int .u8 x.tk, .string (bs x.nm), .slice aa an ac, .bool x.cl, .string (bs x.tx)] 31)
        have HT := hid (toks_any x.tk (bs x.nm) (bs x.tx) x.cl aa an ac x.atts wr.heap.size _ (BlkW.new wr #[.int .u8 x.tk, .string (bs x.nm), .slice aa an ac, .bool x.cl, .string (bs x.tx)] 31) (hA.below ba) sz.1 sz.2.1 (by rw [← hA.1]; exact sz.2.2.1) sz.2.2.2)
        have HNX := hid (show ∀ t : Nat, 1 ≤ t → (t ≤ 400 → SmallT (bs x.nm) (bs x.tx) x.atts) → n ≤ z + (t - 1) ∧ (z + (t - 1) ≤ 400 → ∀ (i : Nat) q, i < k + 1 → os[i]? = some q → q.Small) from fun t h1 h2 => by
          have hq := hZ.out
          refine ⟨by omega, fun h3 i q hi hq' => ?_⟩
          by_cases e : i = k
          · subst e
            rw [hx] at hq'
            cases hq'
            exact h2 (by omega)
          · exact hq.2 (by omega) i q (by omega) hq')
        have HBA := hid ba
        have HBR := hid hb
        clear hat hx sz hA ba hb hZ k0 k1 n7 y8
        generalize bs x.nm = X1 at *
        generalize bs x.tx = X2 at *
        go_wp2_with fail
        refine HT.out.mono ?_
        rintro e w5 ⟨⟨t, rfl, h1, h2, h3⟩, b5⟩
        have HB5 := hid (HBR.out.trans (HBA.out.trans (b5.mono HBA.out.size) |>.mono HBR.out.size))
        have HN := hid (HNX.out t h1 h3)
        have hcast : ((t : Int) - 1) = ((t - 1 : Nat) : Int) := by omega
        clear b5 h3 HT HNX t0 t1 t2 t3 t4
        go_wp2
        go_roundg (n - (k + 1))
        case measure => omega
        case rel => exact ⟨k + 1, z + (t - 1), by omega, by go_num, by go_num, by omega, HN, HB5.out⟩
      · have d1 : decide (k < n) = false := decide_eq_false hlt
        have hltI : ¬ (k : Int) < (n : Int) := by omega
        have HBR := hid hb
        have HEE := hid (show ∀ q, (q = false → n ≤ 100) → HeavyE n os (.returned (.bool q)) from fun q hq => ⟨q, rfl, fun e => ⟨hq e, fun x hx => by
          obtain ⟨i, hi⟩ := List.mem_iff_getElem?.1 hx
          have hil := (List.getElem?_eq_some_iff.1 hi).1
          exact hZ.out.2 hy i x (by omega) hi⟩⟩)
        clear hb hZ
        by_cases h100 : n ≤ 100
        · have d4 : decide ((100 : Int) < (n : Int)) = false := decide_eq_false (by omega)
          have d4' : ¬ (100 : Int) < (n : Int) := by omega
          go_wp2
          go_ret
          exact ⟨HEE.out _ (fun _ => h100), HBR.out⟩
        · have d4 : decide ((100 : Int) < (n : Int)) = true := decide_eq_true (by omega)
          have d4' : (100 : Int) < (n : Int) := by omega
          go_wp2
          go_ret
          exact ⟨HEE.out _ (fun e => by cases e), HBR.out⟩
    · have d2 : decide ((z : Int) ≤ 400) = false := decide_eq_false (by omega)
      have d2' : ¬ (z : Int) ≤ 400 := by omega
      have d3 : decide ((400 : Int) < (z : Int)) = true := decide_eq_true (by omega)
      have d3' : (400 : Int) < (z : Int) := by omega
      have HBR := hid hb
      clear hb hZ
      by_cases hlt : k < n
      · have d1 : decide (k < n) = true := decide_eq_true hlt
        have hltI : (k : Int) < (n : Int) := by omega
        go_wp2
        go_ret
        exact ⟨⟨true, rfl, fun e => by cases e⟩, HBR.out⟩
      · have d1 : decide (k < n) = false := decide_eq_false hlt
        have hltI : ¬ (k : Int) < (n : Int) := by omega
        go_wp2
        go_ret
        exact ⟨⟨true, rfl, fun e => by cases e⟩, HBR.out⟩
end Go.Proofs.Ytlgmjnnfndedbaa
