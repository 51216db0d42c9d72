/- Walks over the reference of layer 4: Safe. -/
import Derived.Test.YtoipadpgpnkdkaaDoorRefScheme
import Derived.Test.YtoipadpgpnkdkaaDoorSlS
import Derived.Test.YtoipadpgpnkdkaaDoorMax
namespace Go.Proofs.YtoipadpgpnkdkaaDoor
open Go.RowKit Go.Lib
set_option maxRecDepth 100000
set_option linter.unusedVariables false

theorem rschemeV_eq (o : Option (List UInt8)) : rschemeV o = .tuple #[.string ⟨(o.getD []).toArray⟩, .bool o.isSome] := by cases o <;> rfl
theorem safe_eq (l : List UInt8) (ls : List (List UInt8)) : Url.safe l ls = !((Url.scheme l).isSome && !(ls.contains ((Url.scheme l).getD []))) := by
  unfold Url.safe
  cases Url.scheme l <;> simp
theorem take_has {x y : List UInt8} {ls : List (List UInt8)} {k : Nat} (h : ls[k]? = some y) : (ls.take (k + 1)).contains x = ((ls.take k).contains x || ((⟨y.toArray⟩ : ByteArray).toList == (⟨x.toArray⟩ : ByteArray).toList)) := by
  rw [ByteArray.toList_eq, ByteArray.toList_eq]
  rw [List.take_add_one, h]
  generalize ls.take k = L
  have e : (y == x) = true ↔ y = x := beq_iff_eq
  rw [Bool.eq_iff_iff, List.contains_iff_mem, Bool.or_eq_true, List.contains_iff_mem, List.mem_append, e]
  constructor
  · rintro (h1 | h1)
    · exact .inl h1
    · exact .inr (List.mem_singleton.1 h1).symm
  · rintro (h1 | h1)
    · exact .inl h1
    · exact .inr (List.mem_singleton.2 h1.symm)

set_option maxHeartbeats 1000000 in
theorem rsafe_any (s : ByteArray) (a : Option Addr) (len cap : Nat) (ls : List (List UInt8)) (w : World) (h : IsS w a len ls) (hs : s.size ≤ 4000000) (hl : len ≤ 4294967296) (hlc : len ≤ cap) (hcm : cap ≤ 9223372036854775807) :
    Calls Tryd.prog 17 #[.string s, .slice a len cap] w fun e w' => e = .returned (.bool (Url.safe s.data.toList ls)) ∧ Below w.heap.size w w' := by
  have HS := rscheme_any s w hs
  rw [rschemeV_eq] at HS
  rw [safe_eq]
  obtain ⟨x, hx⟩ : ∃ x, (Url.scheme s.data.toList).getD [] = x := ⟨_, rfl⟩
  obtain ⟨is, his⟩ : ∃ is, (Url.scheme s.data.toList).isSome = is := ⟨_, rfl⟩
  rw [hx, his] at HS ⊢
  obtain ⟨X, hX⟩ : ∃ X : ByteArray, X = ⟨x.toArray⟩ := ⟨_, rfl⟩
  rw [← hX] at HS
  have HX := hid hX
  have HS := hid HS
  have HH := hid h
  clear h hx his hX
  go_enter Tryd.func17, Tryd.ntmps17
  go_wp2_with fail
  refine HS.out.mono ?_
  rintro e w1 ⟨rfl, b1⟩
  have H1 := hid (HH.out.below b1)
  go_wp2
  go_loopg [6, 7] len (fun g bv iv wr => ∃ (k : Nat) (b : Bool), k + g = len ∧ iv = .int .i64 k ∧ bv = .bool b ∧ Hid (b = (is && !(ls.take k).contains x)) ∧ w1 = wr)
  case atStart => exact ⟨0, is, by omega, rfl, rfl, hid (by simp), rfl⟩
  case round =>
    obtain ⟨k, b, hk, rfl, rfl, hb, rfl⟩ := hrel
    by_cases hlt : k < len
    · have d1 : decide (k < len) = true := decide_eq_true hlt
      have hltI : (k : Int) < (len : Int) := by omega
      obtain ⟨hll, h0 | ⟨blk, off, rfl, hat⟩⟩ := H1.out
      · omega
      have hkl : k < ls.length := by omega
      have hcell := hat k _ (List.getElem?_eq_getElem hkl)
      have HT := hid (take_has (x := x) (List.getElem?_eq_getElem hkl))
      obtain ⟨L, hL⟩ : ∃ L : ByteArray, (⟨(ls[k]'hkl).toArray⟩ : ByteArray) = L := ⟨_, rfl⟩
      rw [hL] at HT hcell
      clear hL hat hll H1 HH
      cases b with
      | true =>
        have HB := hid (show (!(L.toList == X.toList)) = (is && !(ls.take (k + 1)).contains x) by
          have h1 := hb.out
          rw [HT.out, HX.out]
          cases is with
          | false => simp at h1
          | true =>
            have h2 : (ls.take k).contains x = false := by simpa using h1.symm
            rw [h2]; rfl)
        clear hb
        go_wp2
        go_roundg (len - (k + 1))
        case measure => omega
        case rel => exact ⟨k + 1, _, by omega, by go_num, rfl, HB, rfl⟩
      | false =>
        have HB := hid (show false = (is && !(ls.take (k + 1)).contains x) by
          have h1 := hb.out
          rw [HT.out]
          cases is with
          | false => rfl
          | true =>
            have h2 : (ls.take k).contains x = true := by simpa using h1.symm
            rw [h2]; rfl)
        clear hb
        go_wp2
        go_roundg (len - (k + 1))
        case measure => omega
        case rel => exact ⟨k + 1, false, by omega, by go_num, rfl, HB, rfl⟩
    · have d1 : decide (k < len) = false := decide_eq_false hlt
      have hltI : ¬ (k : Int) < (len : Int) := by omega
      have HB := hid (show b = (is && !ls.contains x) by rw [hb.out, List.take_of_length_le (by rw [H1.out.1]; omega)])
      clear hb
      go_wp2
      go_ret
      exact ⟨ret_bool' (by rw [HB.out]; simp), b1⟩
end Go.Proofs.YtoipadpgpnkdkaaDoor
