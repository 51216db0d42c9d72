/- The walk of the statement UrlHidden. -/
import Derived.Test.YtoipadpgpnkdkaaDoorKnownU
import Derived.Test.YtoipadpgpnkdkaaDoorArgs
import Derived.Test.YtoipadpgpnkdkaaDoorUrlIn
namespace Go.Proofs.YtoipadpgpnkdkaaDoor.urlHidden
open Go.ChangeShapes Go.WideShapes Go.ChangeAt Go.RowKit Go.Lib
open Go.ChangeMaps (open_string shut_string)
set_option maxRecDepth 100000
set_option linter.unusedVariables false

theorem schemeV_eq (o : Option (List UInt8)) : schemeV o = .tuple #[.string ⟨(o.getD []).toArray⟩, .bool o.isSome] := by cases o <;> rfl
theorem conv_of (c : UInt8) (n : Nat) (hn : c.toNat = n) (w : World) : (convert 31 9 (.slice (some ⟨w.heap.size, 0, none⟩) 1 1)).run Tryd.prog (w.alloc (.cells #[.int .u8 (n : Nat)] 5 (0, 0))) = .ok (.string ⟨#[c]⟩) (w.alloc (.cells #[.int .u8 (n : Nat)] 5 (0, 0))) := by
  refine conv_bytes (l := [c]) ⟨rfl, .inr ⟨w.heap.size, 0, rfl, fun i hi => ?_⟩⟩ 1
  obtain rfl : i = 0 := by simp at hi; omega
  rw [Nat.zero_add, World.cell?_alloc_mark, ← hn]
  rfl

set_option maxHeartbeats 4000000 in
theorem walk (w : World) (hT : UrlW w) (s : ByteArray) (ws : s.size ≤ maxLen) (a : Option Addr) (len cap : Nat) (zs : List Nat) (hI : IsU w a len zs) (hlc : len ≤ cap) (hm : cap ≤ maxLen) (hn : a = none → cap = 0) (f : ByteArray) (wf : f.size ≤ maxLen) :
    Calls Tryd.prog 7 #[.string s, .slice a len cap, .string f] w fun e w' => e = .returned (.bool true) ∧ Below w.heap.size w w' := by
  unfold maxLen at ws hm wf
  have HT := hid hT
  have HI := hid hI
  have HN := hid hn
  clear hT hI hn
  by_cases hs : 3000 < s.size
  · have hd : decide ((3000 : Int) < (s.size : Int)) = true := by simp; omega
    go_enter Tryd.func7, Tryd.ntmps7
    go_wp2
    go_ret
    exact ⟨rfl, Below.refl _ _⟩
  have hd : decide ((3000 : Int) < (s.size : Int)) = false := by simp; omega
  by_cases hl : 100 < len
  · have hd2 : decide ((100 : Int) < (len : Int)) = true := by simp; omega
    go_enter Tryd.func7, Tryd.ntmps7
    go_wp2
    go_ret
    exact ⟨rfl, Below.refl _ _⟩
  have hd2 : decide ((100 : Int) < (len : Int)) = false := by simp; omega
  by_cases hf : 100 < f.size
  · have hd3 : decide ((100 : Int) < (f.size : Int)) = true := by simp; omega
    go_enter Tryd.func7, Tryd.ntmps7
    go_wp2
    go_ret
    exact ⟨rfl, Below.refl _ _⟩
  have hd3 : decide ((100 : Int) < (f.size : Int)) = false := by simp; omega
  have H1 := fun W h => scheme_any s W (by omega) h
  rw [schemeV_eq] at H1
  obtain ⟨x, hx⟩ : ∃ x, (⟨((Url.scheme s.data.toList).getD []).toArray⟩ : ByteArray) = x := ⟨_, rfl⟩
  obtain ⟨is, his⟩ : ∃ is, (Url.scheme s.data.toList).isSome = is := ⟨_, rfl⟩
  have H2 : ∀ F T : ByteArray, ((F ++ T) ++ F).size ≤ 4000000 → Low F → Url.strip T.data.toList = Url.strip s.data.toList → ∀ W, UrlW W → Calls Tryd.prog 12 #[.string ((F ++ T) ++ F)] W fun e w' => e = .returned (.tuple #[.string x, .bool is]) ∧ Below W.heap.size W w' := by
    intro F T h1 h2 h3 W h4
    have := scheme_any ((F ++ T) ++ F) W h1 h4
    rwa [schemeV_eq, scheme_around F T s h2 h3, hx, his] at this
  rw [hx, his] at H1
  have H1 := hid H1
  have H2 := hid H2
  clear hx his
  go_enter Tryd.func7, Tryd.ntmps7
  go_wp2_with fail
  refine (H1.out _ HT.out).mono ?_
  rintro e w1 ⟨rfl, b1⟩
  go_wp2
  go_loopg [9, 11] len (fun g tv iv wr => ∃ (k : Nat) (T : ByteArray), k + g = len ∧ iv = .int .i64 k ∧ tv = .string T ∧ T.size ≤ 3100 ∧ Hid (T.size = s.size + k) ∧ Hid (Url.strip T.data.toList = Url.strip s.data.toList) ∧ Below w.heap.size w wr)
  case atStart => exact ⟨0, s, by omega, rfl, rfl, by omega, hid rfl, hid rfl, b1⟩
  case round =>
    obtain ⟨k, T, hk, rfl, rfl, hTb, hTs, hTI, hbw⟩ := hrel
    by_cases hlt : k < len
    · have d1 : decide (k < len) = true := decide_eq_true hlt
      have hltI : (k : Int) < (len : Int) := by omega
      obtain ⟨hll, hz, h0 | ⟨blk, off, ha, hat⟩⟩ := HI.out.below hbw
      · omega
      subst ha
      have hkl : k < zs.length := by omega
      have hcell := hat k _ (List.getElem?_eq_getElem hkl)
      have hzk := hz _ (List.getElem_mem hkl)
      obtain ⟨z, hzz⟩ : ∃ z, zs[k]'hkl = z := ⟨_, rfl⟩
      rw [hzz] at hcell hzk
      obtain ⟨p, hp⟩ : ∃ p : Nat, z % (T.size + 1) = p := ⟨_, rfl⟩
      obtain ⟨c, hc⟩ : ∃ c : Nat, z / 7 % 3 = c := ⟨_, rfl⟩
      have hpT : p ≤ T.size := by
        have := Nat.mod_lt z (show 0 < T.size + 1 by omega)
        omega
      have hc3 : c < 3 := by omega
      have m1 : (z : Int) % ((T.size : Int) + 1) = (p : Int) := by rw [← hp]; rfl
      have m2 : (z : Int) / 7 % 3 = (c : Int) := by rw [← hc]; rfl
      have q1 : (p : Int) ≤ (T.size : Int) := by omega
      have q2 : (c : Int) + 1 ≤ 3 := by omega
      have q3 : (c : Int) ≤ (c : Int) + 1 := by omega
      have q4 : (c : Int) ≤ 3 := by omega
      have q5 : c + 1 ≤ 3 := by omega
      have HP := hid (put_size T p c hc3 hpT)
      have HN2 := hid ((strip_put T p c hc3 hpT).trans hTI.out)
      clear hat hll hz hTI hzz hp hc
      go_wp2
      go_quiet (fail)
      go_wp2
      go_roundg (len - (k + 1))
      case measure => omega
      case rel => exact ⟨k + 1, _, by omega, by go_num, rfl, by rw [HP.out, hTs.out]; omega, hid (by rw [HP.out, hTs.out]; omega), HN2, bel_drewN hbw _⟩
    · have d1 : decide (k < len) = false := decide_eq_false hlt
      have hltI : ¬ (k : Int) < (len : Int) := by omega
      go_wp2
      go_loopg [14, 15] f.size (fun g fv iv wx => ∃ (i : Nat) (F : ByteArray), i + g = f.size ∧ iv = .int .i64 i ∧ fv = .string F ∧ F.size ≤ 100 ∧ Hid (F.size = i) ∧ Hid (Low F) ∧ Below w.heap.size w wx)
      case atStart => exact ⟨0, ⟨#[]⟩, by omega, rfl, rfl, by decide, hid rfl, hid (fun c h => by cases h), hbw⟩
      case round =>
        obtain ⟨i, F, hi, rfl, rfl, hFb, hFs, hF, cw⟩ := hrel
        have hszr := cw.size
        by_cases hlf : i < f.size
        · have d2 : decide (i < f.size) = true := decide_eq_true hlf
          obtain ⟨c, hc⟩ : ∃ c, (f[i]'hlf) = c := ⟨_, rfl⟩
          have hc256 := c.toNat_lt
          obtain ⟨r, hr⟩ : ∃ r, c.toNat % 33 = r := ⟨_, rfl⟩
          have hr33 : r < 33 := by omega
          have hrb : (UInt8.ofNat r).toNat = r := ofNat_small r (by omega)
          have CV := fun W => conv_of (UInt8.ofNat r) r hrb W
          have HN2 := hid (hF.out.next (UInt8.ofNat r) (by omega))
          have HFz := hid (show (F ++ (⟨#[UInt8.ofNat r]⟩ : ByteArray)).size = F.size + 1 by rw [cats_size]; rfl)
          obtain ⟨b, hb⟩ : ∃ b, UInt8.ofNat r = b := ⟨_, rfl⟩
          rw [hb] at CV HN2 HFz
          obtain ⟨n, hn⟩ : ∃ n, c.toNat = n := ⟨_, rfl⟩
          rw [hn] at hr hc256
          have m1 : (n : Int) % 33 = (r : Int) := by rw [← hr]; rfl
          clear hb hrb hF hr
          go_wp2
          have cw2 := cw.alloc hszr (.cells #[.int .u8 (r : Nat)] 5)
          go_roundg (f.size - (i + 1))
          case measure => omega
          case rel => exact ⟨i + 1, _, by omega, by go_num, rfl, by rw [HFz.out, hFs.out]; omega, hid (by rw [HFz.out, hFs.out]), HN2, cw2⟩
        · have d2 : decide (i < f.size) = false := decide_eq_false hlf
          have H3 := hid (fun W => H2.out F T (by rw [cats_size, cats_size]; omega) hF.out hTI.out W)
          go_wp2_with fail
          refine (H3.out _ (url_below HT.out cw)).mono ?_
          rintro e w3 ⟨rfl, b3⟩
          have c3 := cw.trans (b3.mono cw.size)
          clear b3
          go_wp2_with fail
          refine (known4_any _ (url_below HT.out c3)).mono ?_
          rintro e w4 ⟨rfl, b4⟩
          have c4 := hid (c3.trans (b4.mono c3.size))
          clear b4 c3
          go_wp2
          go_ret
          exact ⟨ret_bool' (by simp), c4.out⟩
end Go.Proofs.YtoipadpgpnkdkaaDoor.urlHidden
