/- Walks over the statements of layer 11: whether there is more than is looked at. Written by tools/gen_openmu.py. -/
import Derived.Test.YtolbohmalgklmaaOpenArg
namespace Go.Proofs.Ytolbohmalgklmaa
open Go.RowKit Go.Lib
set_option maxRecDepth 100000
set_option linter.unusedVariables false
theorem bs_size (l : List UInt8) : (bs l).size = l.length := rfl
/-- It is so, or there are few. -/
def MuchE (w : World) (len bn : Nat) (e : Ending) (w' : World) : Prop := w = w' ∧ ∃ b, e = .returned (.bool b) ∧ (b = false → len ≤ 3000 ∧ bn ≤ 100)
set_option maxHeartbeats 8000000 in
theorem much_any (a : Option Addr) (len cap : Nat) (l : List Opn.E) (b : Option Addr) (bn bc : Nat) (ns : List (List UInt8)) (w : World) (h : IsE w a len l) (hf : ∀ x ∈ l, eFits x) (g : IsS w b bn ns) (gf : ∀ s ∈ ns, s.length ≤ 9223372036854775807) (h1 : len ≤ cap) (h2 : cap ≤ 9223372036854775807) (g1 : bn ≤ bc) (g2 : bc ≤ 9223372036854775807) :
    Calls Try.prog 8 #[.slice a len cap, .slice b bn bc] w (MuchE w len bn) := by
  have HH := hid h
  have HF := hid hf
  have GG := hid g
  have GF := hid gf
  clear h hf g gf
  go_enter Try.func8, Try.ntmps8
  go_wp2
  obtain ⟨t0, ht0⟩ : ∃ t0 : Nat, min len 3001 + min bn 3001 = t0 := ⟨_, rfl⟩
  have e0 : (min (len : Int) 3001 + min (bn : Int) 3001) = (t0 : Int) := by omega
  have HT0 := hid ht0
  have ht0b : t0 ≤ 6002 := by omega
  rw [e0]
  clear e0 ht0
  go_loopg [5, 6] (len + 1) (fun g sv iv wr => ∃ k t : Nat, k + g = len + 1 ∧ k ≤ len ∧ t ≤ 2000000000000000000 ∧ iv = .int .i64 k ∧ sv = .int .i64 t ∧ Hid (t0 ≤ t) ∧ w = wr)
  case atStart => exact ⟨0, t0, by omega, by omega, by omega, rfl, rfl, hid (Nat.le_refl _), rfl⟩
  case round =>
    obtain ⟨k, t1, hk, hkn, htb, rfl, rfl, hT1, rfl⟩ := hrel
    by_cases hlt : k < len
    · have d1 : decide (k < len) = true := decide_eq_true hlt
      have hltI : (k : Int) < (len : Int) := by omega
      by_cases hle : t1 ≤ 3000
      · have d2 : decide ((t1 : Int) ≤ 3000) = true := decide_eq_true (by omega)
        have hleI : (t1 : Int) ≤ 3000 := by omega
        obtain ⟨hll, z0 | ⟨blk, off, rfl, hat⟩⟩ := HH.out
        · omega
        have hkl : k < l.length := by omega
        obtain ⟨x, hx⟩ : ∃ x, l[k]? = some x := ⟨_, List.getElem?_eq_getElem hkl⟩
        obtain ⟨_, _, hcell, _⟩ := hat k x hx
        have hsz := bs_size x.name
        have htx := (HF.out x (List.mem_of_getElem? hx)).2.2.1
        have hss : (bs x.name).size ≤ 9223372036854775807 := by omega
        have HT := hid (show t0 ≤ t1 + (bs x.name).size / 16 by have := hT1.out; omega)
        generalize bs x.name = X at *
        clear hx hat hll hsz htx
        go_wp2
        go_roundg (len + 1 - (k + 1))
        case measure => omega
        case rel => exact ⟨k + 1, t1 + X.size / 16, by omega, by omega, by omega, by go_num, by go_num, HT, rfl⟩
      · have d2 : decide ((t1 : Int) ≤ 3000) = false := decide_eq_false (by omega)
        have hleI : ¬ (t1 : Int) ≤ 3000 := by omega
        go_wp2
        clear hle d2 hleI
        have hk1 := hid hk
        clear hk hlt d1 hltI hkn
        go_loopg [5, 7] (bn + 1) (fun g sv iv wr => ∃ k t : Nat, k + g = bn + 1 ∧ k ≤ bn ∧ t ≤ 2000000000000000000 ∧ iv = .int .i64 k ∧ sv = .int .i64 t ∧ Hid (t1 ≤ t) ∧ w = wr)
        case atStart => exact ⟨0, t1, by omega, by omega, by omega, rfl, rfl, hid (Nat.le_refl _), rfl⟩
        case round =>
          obtain ⟨j, t2, hj, hjn, htb2, rfl, rfl, hT2, rfl⟩ := hrel
          by_cases hlt : j < bn
          · have d1 : decide (j < bn) = true := decide_eq_true hlt
            have hltI : (j : Int) < (bn : Int) := by omega
            by_cases hle : t2 ≤ 3000
            · have d2 : decide ((t2 : Int) ≤ 3000) = true := decide_eq_true (by omega)
              have hleI : (t2 : Int) ≤ 3000 := by omega
              obtain ⟨hll, z0 | ⟨blk, off, rfl, hat⟩⟩ := GG.out
              · omega
              have hkl : j < ns.length := by omega
              obtain ⟨x, hx⟩ : ∃ x, ns[j]? = some x := ⟨_, List.getElem?_eq_getElem hkl⟩
              have hcell : w.cell? ⟨blk, off + j, none⟩ = some (.string (bs x)) := hat j x hx
              have hsz := bs_size x
              have htx := GF.out x (List.mem_of_getElem? hx)
              have hss : (bs x).size ≤ 9223372036854775807 := by omega
              have HT := hid (show t1 ≤ t2 + (bs x).size / 16 by have := hT2.out; omega)
              generalize bs x = X at *
              clear hx hat hll hsz htx
              go_wp2
              go_roundg (bn + 1 - (j + 1))
              case measure => omega
              case rel => exact ⟨j + 1, t2 + X.size / 16, by omega, by omega, by omega, by go_num, by go_num, HT, rfl⟩
            · have d2 : decide ((t2 : Int) ≤ 3000) = false := decide_eq_false (by omega)
              have hleI : ¬ (t2 : Int) ≤ 3000 := by omega
              have d3 : decide ((3000 : Int) < (t2 : Int)) = true := decide_eq_true (by omega)
              have hgt : (3000 : Int) < (t2 : Int) := by omega
              go_wp2
              go_ret
              exact ⟨rfl, _, rfl, fun e => by cases e⟩
          · have d1 : decide (j < bn) = false := decide_eq_false hlt
            have hltI : ¬ (j : Int) < (bn : Int) := by omega
            by_cases hle : t2 ≤ 3000
            · have d3 : decide ((3000 : Int) < (t2 : Int)) = false := decide_eq_false (by omega)
              have hgt : ¬ (3000 : Int) < (t2 : Int) := by omega
              have HE := hid (show decide ((100 : Int) < (bn : Int)) = false → len ≤ 3000 ∧ bn ≤ 100 from fun e => by
                have e := of_decide_eq_false e
                have := HT0.out; have := hT1.out; have := hT2.out
                omega)
              go_wp2
              go_ret
              exact ⟨rfl, _, rfl, fun e => HE.out (by simpa using e)⟩
            · have d3 : decide ((3000 : Int) < (t2 : Int)) = true := decide_eq_true (by omega)
              have hgt : (3000 : Int) < (t2 : Int) := by omega
              go_wp2
              go_ret
              exact ⟨rfl, _, rfl, fun e => by cases e⟩
    · have d1 : decide (k < len) = false := decide_eq_false hlt
      have hltI : ¬ (k : Int) < (len : Int) := by omega
      go_wp2
      have hk1 := hid hk
      clear hk hlt d1 hltI hkn
      go_loopg [5, 7] (bn + 1) (fun g sv iv wr => ∃ k t : Nat, k + g = bn + 1 ∧ k ≤ bn ∧ t ≤ 2000000000000000000 ∧ iv = .int .i64 k ∧ sv = .int .i64 t ∧ Hid (t1 ≤ t) ∧ w = wr)
      case atStart => exact ⟨0, t1, by omega, by omega, by omega, rfl, rfl, hid (Nat.le_refl _), rfl⟩
      case round =>
        obtain ⟨j, t2, hj, hjn, htb2, rfl, rfl, hT2, rfl⟩ := hrel
        by_cases hlt : j < bn
        · have d1 : decide (j < bn) = true := decide_eq_true hlt
          have hltI : (j : Int) < (bn : Int) := by omega
          by_cases hle : t2 ≤ 3000
          · have d2 : decide ((t2 : Int) ≤ 3000) = true := decide_eq_true (by omega)
            have hleI : (t2 : Int) ≤ 3000 := by omega
            obtain ⟨hll, z0 | ⟨blk, off, rfl, hat⟩⟩ := GG.out
            · omega
            have hkl : j < ns.length := by omega
            obtain ⟨x, hx⟩ : ∃ x, ns[j]? = some x := ⟨_, List.getElem?_eq_getElem hkl⟩
            have hcell : w.cell? ⟨blk, off + j, none⟩ = some (.string (bs x)) := hat j x hx
            have hsz := bs_size x
            have htx := GF.out x (List.mem_of_getElem? hx)
            have hss : (bs x).size ≤ 9223372036854775807 := by omega
            have HT := hid (show t1 ≤ t2 + (bs x).size / 16 by have := hT2.out; omega)
            generalize bs x = X at *
            clear hx hat hll hsz htx
            go_wp2
            go_roundg (bn + 1 - (j + 1))
            case measure => omega
            case rel => exact ⟨j + 1, t2 + X.size / 16, by omega, by omega, by omega, by go_num, by go_num, HT, rfl⟩
          · have d2 : decide ((t2 : Int) ≤ 3000) = false := decide_eq_false (by omega)
            have hleI : ¬ (t2 : Int) ≤ 3000 := by omega
            have d3 : decide ((3000 : Int) < (t2 : Int)) = true := decide_eq_true (by omega)
            have hgt : (3000 : Int) < (t2 : Int) := by omega
            go_wp2
            go_ret
            exact ⟨rfl, _, rfl, fun e => by cases e⟩
        · have d1 : decide (j < bn) = false := decide_eq_false hlt
          have hltI : ¬ (j : Int) < (bn : Int) := by omega
          by_cases hle : t2 ≤ 3000
          · have d3 : decide ((3000 : Int) < (t2 : Int)) = false := decide_eq_false (by omega)
            have hgt : ¬ (3000 : Int) < (t2 : Int) := by omega
            have HE := hid (show decide ((100 : Int) < (bn : Int)) = false → len ≤ 3000 ∧ bn ≤ 100 from fun e => by
              have e := of_decide_eq_false e
              have := HT0.out; have := hT1.out; have := hT2.out
              omega)
            go_wp2
            go_ret
            exact ⟨rfl, _, rfl, fun e => HE.out (by simpa using e)⟩
          · have d3 : decide ((3000 : Int) < (t2 : Int)) = true := decide_eq_true (by omega)
            have hgt : (3000 : Int) < (t2 : Int) := by omega
            go_wp2
            go_ret
            exact ⟨rfl, _, rfl, fun e => by cases e⟩
end Go.Proofs.Ytolbohmalgklmaa
