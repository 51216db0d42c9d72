/- Lists of pairs of texts (a struct of two strings), and whether one stands in them. -/
import Derived.Test.YtpheaepifjcmiaaDoorSlS
import Derived.Test.YtpheaepifjcmiaaDoorMax
import Derived.Deep.LoopGhost
import Derived.IntWalk
namespace Go.Proofs.YtpheaepifjcmiaaDoor
open Go.RowKit Go.Lib
set_option maxRecDepth 100000
set_option linter.unusedVariables false

def bs (l : List UInt8) : ByteArray := ⟨l.toArray⟩
/-- A list of pairs of texts. -/
def IsA (w : World) (a : Option Addr) (len : Nat) (ls : List (List UInt8 × List UInt8)) : Prop :=
  ls.length = len ∧ (len = 0 ∨ ∃ b off, a = some ⟨b, off, none⟩ ∧ ∀ i x, ls[i]? = some x → w.cell? ⟨b, off + i * 2, none⟩ = some (.string (bs x.1)) ∧ w.cell? ⟨b, off + i * 2 + 1, none⟩ = some (.string (bs x.2)))
theorem IsA.below {w w' : World} {a : Option Addr} {len : Nat} {ls : List (List UInt8 × List UInt8)} (h : IsA w a len ls) (hb : Below w.heap.size w w') : IsA w' a len ls := by
  refine ⟨h.1, h.2.elim .inl fun ⟨b, off, e, hat⟩ => .inr ⟨b, off, e, fun i x hi => ?_⟩⟩
  obtain ⟨h1, h2⟩ := hat i x hi
  have hlt : b < w.heap.size := by
    rcases Nat.lt_or_ge b w.heap.size with h' | h'
    · exact h'
    · simp [World.cell?, Array.getElem?_eq_none h'] at h1
  exact ⟨(hb.cell (p := ⟨b, off + i * 2, none⟩) hlt).trans h1, (hb.cell (p := ⟨b, off + i * 2 + 1, none⟩) hlt).trans h2⟩
theorem IsA.take {w : World} {a : Option Addr} {len : Nat} {ls : List (List UInt8 × List UInt8)} (h : IsA w a len ls) (k : Nat) (hk : k ≤ len) : IsA w a k (ls.take k) := by
  refine ⟨by rw [List.length_take, h.1]; omega, ?_⟩
  rcases h.2 with h0 | ⟨b, off, e, hat⟩
  · exact .inl (by omega)
  · refine .inr ⟨b, off, e, fun i x hi => hat i x ?_⟩
    have hlt : i < (ls.take k).length := (List.getElem?_eq_some_iff.1 hi).1
    rw [List.length_take] at hlt
    rwa [List.getElem?_take_of_lt (by omega)] at hi
theorem IsS.take {w : World} {a : Option Addr} {len : Nat} {ls : List (List UInt8)} (h : IsS w a len ls) (k : Nat) (hk : k ≤ len) : IsS w a k (ls.take k) := by
  refine ⟨by rw [List.length_take, h.1]; omega, ?_⟩
  rcases h.2 with h0 | ⟨b, off, e, hat⟩
  · exact .inl (by omega)
  · refine .inr ⟨b, off, e, fun i x hi => hat i x ?_⟩
    have hlt : i < (ls.take k).length := (List.getElem?_eq_some_iff.1 hi).1
    rw [List.length_take] at hlt
    rwa [List.getElem?_take_of_lt (by omega)] at hi
def FoundI (b : Bool) (w : World) (e : Ending) (w' : World) : Prop := ∃ n : Int, decide (0 ≤ n) = b ∧ e = .returned (.int .i64 n) ∧ Below w.heap.size w w'
theorem found_yes {b : Bool} {w w' : World} {n : Nat} (h : b = true) (hb : Below w.heap.size w w') : FoundI b w (.returned (.int .i64 n)) w' := ⟨n, by rw [h]; exact decide_eq_true (by omega), rfl, hb⟩
theorem found_no {b : Bool} {w w' : World} (h : b = false) (hb : Below w.heap.size w w') : FoundI b w (.returned (.int .i64 (-1))) w' := ⟨-1, by rw [h]; rfl, rfl, hb⟩
theorem bs_inj {x y : List UInt8} (h : (bs x).toList = (bs y).toList) : x = y := by
  rw [ByteArray.toList_eq, ByteArray.toList_eq] at h
  exact h
theorem pair_next {ls : List (List UInt8 × List UInt8)} {k : Nat} {z v : List UInt8 × List UInt8} (h : (ls.take k).contains v = false) (hz : ls[k]? = some z) (hne : z ≠ v) : (ls.take (k + 1)).contains v = false := by
  rw [List.take_add_one, hz]
  cases hc : (ls.take k ++ [z]).contains v with
  | false => exact hc
  | true =>
    rcases List.mem_append.1 (List.contains_iff_mem.1 hc) with h1 | h1
    · rw [List.contains_iff_mem.2 h1] at h; cases h
    · exact absurd (List.mem_singleton.1 h1).symm hne
set_option maxHeartbeats 2000000 in
theorem indexA_any (a : Option Addr) (len cap : Nat) (ls : List (List UInt8 × List UInt8)) (x y : List UInt8) (w : World) (h : IsA w a len ls) (hs : len ≤ 4294967296) (hlc : len ≤ cap) (hcm : cap ≤ 9223372036854775807) :
    Calls Tryd.prog 38 #[.slice a len cap, .agg #[.string (bs x), .string (bs y)]] w (FoundI (ls.contains (x, y)) w) := by
  have HH := hid h
  clear h
  obtain ⟨X, hX⟩ : ∃ X, bs x = X := ⟨_, rfl⟩
  obtain ⟨Y, hY⟩ : ∃ Y, bs y = Y := ⟨_, rfl⟩
  rw [hX, hY]
  have HX := hid hX
  have HY := hid hY
  obtain ⟨c, hc⟩ : ∃ c, ls.contains (x, y) = c := ⟨_, rfl⟩
  rw [hc]
  have HC := hid hc
  clear hX hY hc
  go_enter Tryd.func38, Tryd.ntmps38
  go_wp2
  go_loopg [8] len (fun g iv wr => ∃ k : Nat, k + g = len ∧ iv = .int .i64 k ∧ Hid ((ls.take k).contains (x, y) = false) ∧ Below w.heap.size w wr ∧ wr.cell? ⟨w.heap.size, 0, none⟩ = some (.string X) ∧ wr.cell? ⟨w.heap.size, 1, none⟩ = some (.string Y))
  case atStart => exact ⟨0, by omega, rfl, hid rfl, (Below.refl _ _).alloc (Nat.le_refl _) _, by simp, by simp⟩
  case round =>
    obtain ⟨k, hk, rfl, hI, hb, hx0, hx1⟩ := hrel
    by_cases hlt : k < len
    · have d1 : decide (k < len) = true := decide_eq_true hlt
      have hltI : (k : Int) < (len : Int) := by omega
      obtain ⟨hll, h0 | ⟨blk, off, rfl, hat⟩⟩ := HH.out.below hb
      · omega
      have hkl : k < ls.length := by omega
      obtain ⟨⟨p, q⟩, hpq⟩ : ∃ z, ls[k]? = some z := ⟨_, List.getElem?_eq_getElem hkl⟩
      obtain ⟨hc0, hc1⟩ := hat k _ hpq
      simp only at hc0 hc1
      by_cases hp : p = x
      · rw [hp, HX.out] at hc0
        by_cases hq : q = y
        · rw [hq, HY.out] at hc1
          have HR := hid (show c = true from HC.out.symm.trans <| List.contains_iff_mem.2 (by rw [← hp, ← hq]; exact List.mem_of_getElem? hpq))
          clear hp hq hat hll hpq hI
          go_wp2
          go_region
          go_wp2
          go_ret
          exact found_yes HR.out (bel_drewN hb 1)
        · have hne : ¬ Y.toList = (bs q).toList := fun e => hq (bs_inj (HY.out ▸ e)).symm
          have HN := hid (pair_next hI.out hpq fun e => hq (congrArg Prod.snd e))
          clear hp hq hat hll hpq hI
          go_wp2
          go_region
          go_wp2
          go_roundg (len - (k + 1))
          case measure => omega
          case rel => exact ⟨k + 1, by omega, by go_num, HN, bel_drewN hb 1, hx0, hx1⟩
      · have hne : ¬ X.toList = (bs p).toList := fun e => hp (bs_inj (HX.out ▸ e)).symm
        have HN := hid (pair_next hI.out hpq fun e => hp (congrArg Prod.fst e))
        clear hp hat hll hpq hI
        go_wp2
        go_region
        go_wp2
        go_roundg (len - (k + 1))
        case measure => omega
        case rel => exact ⟨k + 1, by omega, by go_num, HN, bel_drewN hb 1, hx0, hx1⟩
    · have d1 : decide (k < len) = false := decide_eq_false hlt
      have hltI : ¬ (k : Int) < (len : Int) := by omega
      have HR := hid (show c = false by rw [← HC.out, ← hI.out, List.take_of_length_le (by rw [HH.out.1]; omega)])
      clear hI
      go_wp2
      go_ret
      exact found_no HR.out hb
theorem containsA_any (a : Option Addr) (len cap : Nat) (ls : List (List UInt8 × List UInt8)) (x y : List UInt8) (w : World) (h : IsA w a len ls) (hs : len ≤ 4294967296) (hlc : len ≤ cap) (hcm : cap ≤ 9223372036854775807) :
    Calls Tryd.prog 30 #[.slice a len cap, .agg #[.string (bs x), .string (bs y)]] w fun e w' => e = .returned (.bool (ls.contains (x, y))) ∧ Below w.heap.size w w' := by
  have HI := hid (fun w h => indexA_any a len cap ls x y w h hs hlc hcm)
  have HH := hid h
  clear h
  obtain ⟨X, hX⟩ : ∃ X, bs x = X := ⟨_, rfl⟩
  obtain ⟨Y, hY⟩ : ∃ Y, bs y = Y := ⟨_, rfl⟩
  rw [hX, hY] at HI ⊢
  clear hX hY
  obtain ⟨c, hc⟩ : ∃ c, ls.contains (x, y) = c := ⟨_, rfl⟩
  rw [hc] at HI ⊢
  clear hc
  go_enter Tryd.func30, Tryd.ntmps30
  have b0 : Below w.heap.size w (w.alloc (.cells #[.string X, .string Y] 36)) := (Below.refl _ _).alloc (Nat.le_refl _) _
  go_wp2_with fail
  refine (HI.out _ (HH.out.below b0)).mono ?_
  rintro e w1 ⟨n, hn, rfl, b1⟩
  have c1 := b0.trans (b1.mono b0.size)
  go_wp2
  go_ret
  exact ⟨rfl, c1⟩
end Go.Proofs.YtpheaepifjcmiaaDoor
