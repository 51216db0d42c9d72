/- Walks: package rule, whether a policy may have a scheme. -/
import Derived.Test.YtpheaepifjcmiaaDoorMay
import Derived.Handy
namespace Go.Proofs.YtpheaepifjcmiaaDoor
open Go.RowKit Go.Lib Rule
set_option maxRecDepth 100000
set_option linter.unusedVariables false

theorem cat_list (a b : ByteArray) : (a ++ b).data.toList = a.data.toList ++ b.data.toList := by simp
theorem cat_size (a b : ByteArray) : (a ++ b).size = a.size + b.size := by simp
theorem bs_toList (l : List UInt8) : (bs l).toList = l := by rw [ByteArray.toList_eq]; rfl
theorem beq_no {l m : List UInt8} (h : l ≠ m) : ((bs l).toList == m) = false := by rw [bs_toList]; exact beq_eq_false_iff_ne.2 h
theorem beq_yes {l m : List UInt8} (h : l = m) : ((bs l).toList == m) = true := by rw [bs_toList]; exact beq_iff_eq.2 h
theorem lead_eq {l : List UInt8} (h1 : l ≠ js) (h2 : l ≠ vb) (h3 : l ≠ da) (h4 : l.length ≤ 64) : leadB l = (Url.scheme (l ++ [58]) == some l) := by
  unfold leadB
  rw [if_neg (fun h => h.elim h1 (fun h => h.elim h2 h3)), if_neg (by omega)]
theorem lead_no {l : List UInt8} (h : (l = js ∨ l = vb ∨ l = da) ∨ 64 < l.length) : leadB l = false := by
  unfold leadB
  split
  · rfl
  · rename_i h1
    rw [if_pos (h.resolve_left h1)]
set_option maxHeartbeats 2000000 in
theorem mayLead_any (l : List UInt8) (w : World) (hs : l.length ≤ 1000000) (hT : UrlW w) :
    Calls Tryd.prog 24 #[.string (bs l)] w fun e w' => e = .returned (.bool (leadB l)) ∧ Below w.heap.size w w' := by
  have HS := fun W h => scheme_any (bs l ++ ⟨#[58]⟩) W (by rw [cat_size, bs_size]; show l.length + 1 ≤ _; omega) h
  rw [cat_list, bs_list, show (⟨#[58]⟩ : ByteArray).data.toList = [58] from rfl] at HS
  have hsz := bs_size l
  have hss : (bs l).size ≤ 1000000 := by omega
  have HT := hid hT
  by_cases h1 : l = js
  · have b1 : ((bs l).toList == [106, 97, 118, 97, 115, 99, 114, 105, 112, 116]) = true := beq_yes h1
    rw [lead_no (.inl (.inl h1))]
    clear HS h1 hT
    generalize bs l = s at *
    go_enter Tryd.func24, Tryd.ntmps24
    go_wp2
    go_ret
    exact ⟨rfl, Below.refl _ _⟩
  have b1 : ((bs l).toList == [106, 97, 118, 97, 115, 99, 114, 105, 112, 116]) = false := beq_no h1
  by_cases h2 : l = vb
  · have b2 : ((bs l).toList == [118, 98, 115, 99, 114, 105, 112, 116]) = true := beq_yes h2
    rw [lead_no (.inl (.inr (.inl h2)))]
    clear HS h1 h2 hT
    generalize bs l = s at *
    go_enter Tryd.func24, Tryd.ntmps24
    go_wp2
    go_ret
    exact ⟨rfl, Below.refl _ _⟩
  have b2 : ((bs l).toList == [118, 98, 115, 99, 114, 105, 112, 116]) = false := beq_no h2
  by_cases h3 : l = da
  · have b3 : ((bs l).toList == [100, 97, 116, 97]) = true := beq_yes h3
    rw [lead_no (.inl (.inr (.inr h3)))]
    clear HS h1 h2 h3 hT
    generalize bs l = s at *
    go_enter Tryd.func24, Tryd.ntmps24
    go_wp2
    go_ret
    exact ⟨rfl, Below.refl _ _⟩
  have b3 : ((bs l).toList == [100, 97, 116, 97]) = false := beq_no h3
  by_cases h4 : 64 < l.length
  · have d4 : decide ((64 : Int) < ((bs l).size : Int)) = true := decide_eq_true (by omega)
    rw [lead_no (.inr h4)]
    clear HS h1 h2 h3 hT h4 hsz hs
    generalize bs l = s at *
    go_enter Tryd.func24, Tryd.ntmps24
    go_wp2
    go_ret
    exact ⟨rfl, Below.refl _ _⟩
  have d4 : decide ((64 : Int) < ((bs l).size : Int)) = false := decide_eq_false (by omega)
  rw [lead_eq h1 h2 h3 (by omega)]
  cases hx : Url.scheme (l ++ [58]) with
  | none =>
    rw [hx, schemeV_none rfl] at HS
    rw [show ((none : Option (List UInt8)) == some l) = false from rfl]
    have HS := hid HS
    clear h1 h2 h3 hT h4 hsz hs hx
    generalize bs l = s at *
    go_enter Tryd.func24, Tryd.ntmps24
    go_wp2_with fail
    refine (HS.out _ HT.out).mono ?_
    rintro e w1 ⟨rfl, c1⟩
    go_wp2
    go_ret
    exact ⟨rfl, c1⟩
  | some x =>
    rw [hx, schemeV_some rfl] at HS
    have HR := hid (show ((bs x).toList == (bs l).toList) = (some x == some l) by rw [bs_toList, bs_toList]; rfl)
    generalize (some x == some l) = c at *
    have HS' : ∀ W, UrlW W → Calls Tryd.prog 35 #[.string (bs l ++ ⟨#[58]⟩)] W fun e w' => e = .returned (.tuple #[.string (bs x), .bool true]) ∧ Below W.heap.size W w' := HS
    have HS := hid HS'
    clear h1 h2 h3 hT h4 hsz hs hx HS'
    generalize bs l = s at *
    generalize bs x = t at *
    go_enter Tryd.func24, Tryd.ntmps24
    go_wp2_with fail
    refine (HS.out _ HT.out).mono ?_
    rintro e w1 ⟨rfl, c1⟩
    go_wp2
    go_ret
    exact ⟨ret_bool' HR.out, c1⟩

set_option maxHeartbeats 1000000 in
theorem tableWhole_any (a : Option Addr) (len cap : Nat) (ls : List (List UInt8)) (w : World) (h : IsS w a len ls) (hs : len ≤ 100000) (hz : ∀ l ∈ ls, l.length ≤ 1000000) :
    Calls Tryd.prog 22 #[.slice a len cap] w fun e w' => e = .returned (.bool (wholeB ls)) ∧ Below w.heap.size w w' := by
  have HH := hid h
  have HZ := hid hz
  have hll := h.1
  obtain ⟨c, hc⟩ : ∃ c, wholeB ls = c := ⟨_, rfl⟩
  rw [hc]
  have HC := hid hc
  clear h hz hc
  go_enter Tryd.func22, Tryd.ntmps22
  go_wp2
  go_loopg [3, 8] len (fun g nv iv wr => ∃ k n : Nat, k + g = len ∧ n ≤ k ∧ iv = .int .i64 k ∧ nv = .int .i64 n ∧ Hid (tabsN (ls.take k) = n) ∧ Below w.heap.size w wr)
  case atStart => exact ⟨0, 0, by omega, by omega, rfl, rfl, hid rfl, Below.refl _ _⟩
  case round =>
    obtain ⟨k, n, hk, hnk, rfl, rfl, hI, hb⟩ := hrel
    by_cases hlt : k < len
    · have d1 : decide (k < len) = true := decide_eq_true hlt
      have hltI : (k : Int) < (len : Int) := by omega
      obtain ⟨_, h0 | ⟨blk, off, rfl, hat⟩⟩ := HH.out.below hb
      · omega
      have hkl : k < ls.length := by omega
      obtain ⟨l, hl⟩ : ∃ l, ls[k]? = some l := ⟨_, List.getElem?_eq_getElem hkl⟩
      have hcell : wr.cell? ⟨blk, off + k, none⟩ = some (.string (bs l)) := hat k _ hl
      have H1 := fun W => kindOf_any (bs l) W (by rw [bs_size]; exact HZ.out l (List.mem_of_getElem? hl))
      rw [bs_list] at H1
      have hlt6 := kindOf_lt l
      have hT := tabB_eq l
      have HN : tabsN (ls.take (k + 1)) = n + if tabB l = true then 1 else 0 := by
        rw [← hI.out]
        unfold tabsN
        rw [List.take_add_one, hl, List.countP_append]
        show _ + List.countP tabB [l] = _
        rw [List.countP_singleton]
      obtain ⟨q, hq⟩ : ∃ q, kindOf l = q := ⟨_, rfl⟩
      rw [hq] at H1 hlt6 hT
      have H1 := hid H1
      by_cases hq2 : q = 2
      · subst hq2
        rw [hT] at HN
        have HN := hid (show tabsN (ls.take (k + 1)) = n + 1 from HN)
        clear hT hq hl hat hI hll
        go_wp2_with fail
        refine (H1.out _).mono ?_
        rintro e w1 ⟨rfl, b1⟩
        have c1 := hb.trans (b1.mono hb.size)
        go_wp2
        go_roundg (len - (k + 1))
        case measure => omega
        case rel => exact ⟨k + 1, n + 1, by omega, by omega, by go_num, by go_num, HN, c1⟩
      · have hb2 : ((q : Int) == 2) = false := by simp; omega
        have hq3 : (q == 2) = false := by simpa using hq2
        rw [hT, hq3] at HN
        have HN := hid (show tabsN (ls.take (k + 1)) = n from HN)
        clear hT hq hl hat hI hll hq3 hq2
        go_wp2_with fail
        refine (H1.out _).mono ?_
        rintro e w1 ⟨rfl, b1⟩
        have c1 := hb.trans (b1.mono hb.size)
        go_wp2
        go_roundg (len - (k + 1))
        case measure => omega
        case rel => exact ⟨k + 1, n, by omega, by omega, by go_num, rfl, HN, c1⟩
    · have d1 : decide (k < len) = false := decide_eq_false hlt
      have hltI : ¬ (k : Int) < (len : Int) := by omega
      have HR := hid (show (n == 0 || n == 7) = c by
        rw [← HC.out]
        unfold wholeB
        rw [show tabsN ls = n by rw [← hI.out, List.take_of_length_le (by omega)]])
      clear hI
      by_cases hn0 : n = 0
      · subst hn0
        have hc : true = c := HR.out
        subst hc
        go_wp2
        go_ret
        exact ⟨rfl, hb⟩
      · have e0 : ((n : Int) == 0) = false := by simp; omega
        have HR2 := hid (show decide ((n : Int) = 7) = c by
          rw [← HR.out]
          rw [Bool.eq_iff_iff]
          simp
          omega)
        clear HR hn0
        go_wp2
        go_ret
        first | exact ⟨ret_bool' HR2.out, hb⟩ | exact ⟨ret_bool' (by rw [← HR2.out, Bool.eq_iff_iff]; simp), hb⟩
end Go.Proofs.YtpheaepifjcmiaaDoor
