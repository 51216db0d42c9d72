/- The walk of the statement UtfLong. -/
import Derived.Test.YtjliphkpmpcjaaaDoorFrame
import Derived.Test.YtjliphkpmpcjaaaDoorBytes
import Derived.Test.YtjliphkpmpcjaaaDoorLong
namespace Go.Proofs.YtjliphkpmpcjaaaDoor.utfLong
open Go.ChangeShapes Go.WideShapes Go.ChangeAt Go.RowKit Go.Lib
open Go.ChangeMaps (open_string shut_string)
set_option maxRecDepth 100000
set_option linter.unusedVariables false

theorem heads_next (s : ByteArray) (k : Nat) (h : k < s.size) : U8.heads (s.data.toList.take (k + 1)) = U8.heads (s.data.toList.take k) + (if U8.isHead (s[k]'h) = true then 1 else 0) := by
  rw [take_snoc' _ _ (s[k]'h), U8.heads_append]
  · congr 1
    unfold U8.heads
    by_cases hh : U8.isHead (s[k]'h) = true
    · rw [if_pos hh, List.filter_cons, if_pos hh]; rfl
    · rw [if_neg hh, List.filter_cons, if_neg hh]; rfl
  · rw [List.getElem?_eq_getElem (by rw [size_list]; exact h)]; rfl

/-- Behind the loop: the last statement's three tests. -/
theorem long_facts {l : List UInt8} {s : ByteArray} (hs : s.data.toList = U8.text l) : s.size ≤ 3 * l.length ∧ U8.heads s.data.toList ≤ l.length ∧
    (if 3 ≤ l.length ∧ U8.B l 0 = 239 ∧ U8.B l 1 = 187 ∧ U8.B l 2 = 191 then l.length ≤ 4 * U8.heads s.data.toList + 3 else l.length ≤ 4 * U8.heads s.data.toList) := by
  have h1 := U8.plain_le (trimPrefix l [239, 187, 191])
  have h2 := U8.heads_plain (trimPrefix l [239, 187, 191])
  have h3 := trimPrefix_le l [239, 187, 191]
  have h4 : s.size = (U8.plain (trimPrefix l [239, 187, 191])).length := by rw [← size_list, hs]; rfl
  have h5 : U8.heads s.data.toList = U8.heads (U8.plain (trimPrefix l [239, 187, 191])) := by rw [hs]; rfl
  refine ⟨by omega, by omega, ?_⟩
  split
  · rename_i h
    have e : (trimPrefix l [239, 187, 191]).length = l.length - 3 := by rw [trim_yes h, List.length_drop]
    omega
  · rename_i h
    have e : (trimPrefix l [239, 187, 191]).length = l.length := by rw [trim_no h]
    omega

set_option maxHeartbeats 1000000 in
theorem walk (w : World) (hT : Tabs w) (a : Option Addr) (len cap : Nat) (l : List UInt8) (hB : IsB w a len l) (hlc : len ≤ cap) (hm : cap ≤ maxLen) (hn : a = none → cap = 0) :
    Calls Tryd.prog 8 #[.slice a len cap] w fun e w' => e = .returned (.bool true) ∧ Below w.heap.size w w' := by
  unfold maxLen at hm
  by_cases hs : 20000 < len
  · have hd : decide ((20000 : Int) < (len : Int)) = true := by simp; omega
    have HK := hid (known_any w hT)
    clear hT hB hn
    go_enter Tryd.func8, Tryd.ntmps8
    go_wp2_with fail
    refine HK.out.mono ?_
    rintro e w1 ⟨rfl, b1⟩
    go_wp2
    go_ret
    exact ⟨rfl, b1⟩
  · have hd : decide ((20000 : Int) < (len : Int)) = false := by simp; omega
    have HK := hid (known_any w hT)
    have HB := hid hB; have HT := hid hT
    have HLL := hid hB.1
    have h1 : len ≤ 20000 := by omega
    clear hB hn hT
    go_enter Tryd.func8, Tryd.ntmps8
    go_wp2_with fail
    refine HK.out.mono ?_
    rintro e w1 ⟨rfl, b1⟩
    have HB1 := hid (HB.out.below b1)
    go_wp2_with fail
    refine (utext_any a len cap l w1 HB1.out (by omega) (Utf8Tabs_below HT.out b1)).mono ?_
    rintro e w2 ⟨rfl, b2⟩
    have c2 := b1.trans (b2.mono b1.size)
    have HB2 := hid (HB1.out.below b2)
    clear b1 b2 HB1
    obtain ⟨s, hse⟩ : ∃ s : ByteArray, s = ⟨(U8.text l).toArray⟩ := ⟨_, rfl⟩
    have hsl : s.data.toList = U8.text l := by rw [hse]
    rw [← hse]
    obtain ⟨f1, f2, f3⟩ := long_facts hsl
    rw [HLL.out] at f1 f2 f3
    have F3 := hid f3
    clear hse hsl f3
    go_wp2
    go_loop [4, 5] (fun vn vi => ∃ k : Nat, k ≤ s.size ∧ vi = .int .i64 k ∧ vn = .int .i64 (U8.heads (s.data.toList.take k) : Nat)) (fun _ vi => s.size - (RowKit.intOf vi).toNat)
    case atStart => exact ⟨0, by omega, rfl, rfl⟩
    case round =>
      obtain ⟨k, hk, rfl, rfl⟩ := hrel
      have hhk := U8.heads_le (s.data.toList.take k)
      rw [List.length_take, size_list] at hhk
      by_cases hlt : k < s.size
      · have hnx := heads_next s k hlt
        obtain ⟨x, hx⟩ : ∃ x, s[k]'hlt = x := ⟨_, rfl⟩
        rw [hx] at hnx
        obtain ⟨N, hN⟩ : ∃ N, U8.heads (s.data.toList.take k) = N := ⟨_, rfl⟩
        rw [hN] at hnx hhk
        rw [hN]
        unfold U8.isHead at hnx
        rcases (show x.toNat < 128 ∨ (128 ≤ x.toNat ∧ x.toNat < 192) ∨ 192 ≤ x.toNat by omega) with g | ⟨g, g'⟩ | g
        · have t0 : decide ((x.toNat : Int) < 128) = true := by simp; omega
          rw [if_pos (by rw [decide_eq_true_eq]; omega)] at hnx
          have HNX := hid hnx
          clear hnx hN
          go_wp2
          go_round
          case rel => exact ⟨k + 1, by omega, by go_num, by rw [HNX.out]; go_num⟩
          case measure => simp [RowKit.intOf]; omega
        · have t0 : decide ((x.toNat : Int) < 128) = false := by simp; omega
          have t1 : decide ((192 : Int) ≤ (x.toNat : Int)) = false := by simp; omega
          rw [if_neg (by rw [decide_eq_true_eq]; omega)] at hnx
          have HNX := hid hnx
          clear hnx hN
          go_wp2
          go_round
          case rel => exact ⟨k + 1, by omega, by go_num, by rw [HNX.out]; rfl⟩
          case measure => simp [RowKit.intOf]; omega
        · have t0 : decide ((x.toNat : Int) < 128) = false := by simp; omega
          have t1 : decide ((192 : Int) ≤ (x.toNat : Int)) = true := by simp; omega
          rw [if_pos (by rw [decide_eq_true_eq]; omega)] at hnx
          have HNX := hid hnx
          clear hnx hN
          go_wp2
          go_round
          case rel => exact ⟨k + 1, by omega, by go_num, by rw [HNX.out]; go_num⟩
          case measure => simp [RowKit.intOf]; omega
      · have hke : s.data.toList.take k = s.data.toList := List.take_of_length_le (by rw [size_list]; omega)
        rw [hke]
        obtain ⟨N, hN⟩ : ∃ N, U8.heads s.data.toList = N := ⟨_, rfl⟩
        have hF := F3.out
        rw [hN] at f2 hF
        rw [hN]
        clear hke hN hhk
        have hc1 : (s.size : Int) ≤ 3 * (len : Int) := by omega
        have hc2 : (N : Int) ≤ (len : Int) := by omega
        by_cases h3 : 3 ≤ len
        case neg =>
          have hd3 : decide ((3 : Int) ≤ (len : Int)) = false := by simp; omega
          rw [if_neg (by omega)] at hF
          have hc3 : (len : Int) ≤ 4 * (N : Int) := by omega
          go_wp2
          go_ret
          exact ⟨rfl, c2⟩
        obtain ⟨b, off, rfl, hat⟩ : ∃ b off, a = some ⟨b, off, none⟩ ∧ BytesAt w2 b off l := HB2.out.2.elim (fun h => absurd h (by omega)) id
        have hll := HLL.out
        have c0 : w2.cell? ⟨b, off, none⟩ = some (.int .u8 (U8.B l 0 : Nat)) := hat 0 (by omega)
        have c1 : w2.cell? ⟨b, off + 1, none⟩ = some (.int .u8 (U8.B l 1 : Nat)) := hat 1 (by omega)
        have c2' : w2.cell? ⟨b, off + 2, none⟩ = some (.int .u8 (U8.B l 2 : Nat)) := hat 2 (by omega)
        obtain ⟨b0, e0⟩ : ∃ b0, U8.B l 0 = b0 := ⟨_, rfl⟩
        obtain ⟨b1, e1⟩ : ∃ b1, U8.B l 1 = b1 := ⟨_, rfl⟩
        obtain ⟨b2, e2⟩ : ∃ b2, U8.B l 2 = b2 := ⟨_, rfl⟩
        rw [e0, e1, e2] at hF
        rw [e0] at c0; rw [e1] at c1; rw [e2] at c2'
        clear e0 e1 e2 hll hat
        have hd3 : decide ((3 : Int) ≤ (len : Int)) = true := by simp; omega
        have hd3' : (3 : Int) ≤ (len : Int) := by omega
        by_cases hmm : b0 = 239 ∧ b1 = 187 ∧ b2 = 191
        · obtain ⟨rfl, rfl, rfl⟩ := hmm
          rw [if_pos ⟨h3, rfl, rfl, rfl⟩] at hF
          have hc3 : (len : Int) - 3 ≤ 4 * (N : Int) := by omega
          clear hF
          go_wp2
          go_ret
          exact ⟨rfl, c2⟩
        · rw [if_neg (fun h => hmm h.2)] at hF
          have hc3 : (len : Int) ≤ 4 * (N : Int) := by omega
          clear hF
          rcases (show b0 ≠ 239 ∨ (b0 = 239 ∧ b1 ≠ 187) ∨ (b0 = 239 ∧ b1 = 187 ∧ b2 ≠ 191) by omega) with g | ⟨rfl, g⟩ | ⟨rfl, rfl, g⟩
          · have t0 : ((b0 : Int) == 239) = false := beq_eq_false_iff_ne.2 (by omega)
            clear hmm g
            go_wp2
            go_ret
            exact ⟨rfl, c2⟩
          · have t0 : ((b1 : Int) == 187) = false := beq_eq_false_iff_ne.2 (by omega)
            clear hmm g
            go_wp2
            go_ret
            exact ⟨rfl, c2⟩
          · have t0 : ((b2 : Int) == 191) = false := beq_eq_false_iff_ne.2 (by omega)
            clear hmm g
            go_wp2
            go_ret
            exact ⟨rfl, c2⟩
end Go.Proofs.YtjliphkpmpcjaaaDoor.utfLong
