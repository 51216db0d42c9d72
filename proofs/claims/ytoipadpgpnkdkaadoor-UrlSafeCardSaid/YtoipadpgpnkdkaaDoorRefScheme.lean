/- Walks over the reference of layer 4: Scheme. -/
import Derived.Test.YtoipadpgpnkdkaaDoorRefStrip
import Derived.Test.YtoipadpgpnkdkaaDoorUrlCut
import Derived.Handy
namespace Go.Proofs.YtoipadpgpnkdkaaDoor
open Go.RowKit Go.Lib
set_option maxRecDepth 100000
set_option linter.unusedVariables false

def rschemeV (o : Option (List UInt8)) : Value := match o with
  | none => .tuple #[.string ⟨#[]⟩, .bool false]
  | some x => .tuple #[.string ⟨x.toArray⟩, .bool true]
theorem rschemeV_none {o : Option (List UInt8)} (h : o = none) : rschemeV o = .tuple #[.string ⟨#[]⟩, .bool false] := by rw [h]; rfl
theorem rschemeV_some {o : Option (List UInt8)} {x : List UInt8} (h : o = some x) : rschemeV o = .tuple #[.string ⟨x.toArray⟩, .bool true] := by rw [h]; rfl
/-- What the cut at ':' says of the text's bytes. -/
def CutAt (t p : List UInt8) (m : Bool) : Prop := p = t.take p.length ∧ (∀ c ∈ p, c ≠ 58) ∧ (m = true → p.length < t.length ∧ t[p.length]? = some 58) ∧ (m = false → p.length = t.length)
theorem cutAt (t : List UInt8) {p q : List UInt8} {m : Bool} (h : cut t [58] = (p, q, m)) : CutAt t p m := by
  rcases Url.cut_one 58 t with ⟨p', q', h1, h2, h3⟩ | ⟨h1, h2⟩
  · rw [h] at h1
    obtain ⟨rfl, rfl, rfl⟩ : p = p' ∧ q = q' ∧ m = true := by simpa using h1
    exact ⟨by rw [h2]; simp, h3, (fun _ => ⟨by rw [h2]; simp, by rw [h2]; simp⟩), fun e => absurd e (by decide)⟩
  · rw [h] at h1
    obtain ⟨rfl, rfl, rfl⟩ : p = t ∧ q = [] ∧ m = false := by simpa using h1
    exact ⟨by simp, h2, (fun e => absurd e (by decide)), fun _ => rfl⟩
/-- Behind k bytes of the name. -/
def RSchI (p : List UInt8) (k : Nat) : Prop := (p.take k).all Url.mayS = true ∧ (0 < k → letterN (U8.B p 0) = true)
theorem RSchI.next {p : List UInt8} {k : Nat} (h : RSchI p k) (hk : k < p.length) (h0 : k = 0 → letterN (p[k]'hk).toNat = true) (h1 : Url.mayS (p[k]'hk) = true) : RSchI p (k + 1) := by
  refine ⟨Url.all_take_next h.1 hk h1, fun _ => ?_⟩
  by_cases hz : k = 0
  · subst hz
    rw [U8.B_eq (List.getElem?_eq_getElem hk)]
    exact h0 rfl
  · exact h.2 (by omega)

set_option maxHeartbeats 1000000 in
theorem rscheme_any (s0 : ByteArray) (w : World) (hs : s0.size ≤ 4000000) :
    Calls Tryd.prog 13 #[.string s0] w fun e w' => e = .returned (rschemeV (Url.scheme s0.data.toList)) ∧ Below w.heap.size w w' := by
  have HS := rstrip_any s0 w hs
  have hle := Url.strip_le s0.data.toList
  rw [size_list] at hle
  have hX : Url.scheme s0.data.toList = Url.schemeOf (Url.strip s0.data.toList) := rfl
  rw [hX]
  obtain ⟨t, ht⟩ : ∃ t, Url.strip s0.data.toList = t := ⟨_, rfl⟩
  rw [ht] at HS hle ⊢
  obtain ⟨T, hT⟩ : ∃ T : ByteArray, T = ⟨t.toArray⟩ := ⟨_, rfl⟩
  have hTl : T.data.toList = t := by rw [hT]
  have hTs : T.size = t.length := by rw [← size_list, hTl]
  rw [← hT] at HS
  obtain ⟨p, q, m, hc⟩ : ∃ p q m, cut t [58] = (p, q, m) := ⟨_, _, _, rfl⟩
  have hca := cutAt t hc
  have hple : p.length ≤ T.size := by
    rw [hTs]
    cases m with
    | true => exact Nat.le_of_lt (hca.2.2.1 rfl).1
    | false => exact Nat.le_of_eq (hca.2.2.2 rfl)
  have hTb : T.size ≤ 4000000 := by omega
  have HS := hid HS
  have HC := hid hc
  have HA := hid hca
  have HTL := hid hTl
  have HTS := hid hTs
  clear hX ht hT hc hca hTl hTs
  go_enter Tryd.func13, Tryd.ntmps13
  go_wp2_with fail
  refine HS.out.mono ?_
  rintro e w1 ⟨rfl, b1⟩
  go_wp2
  go_loopg [4] p.length (fun g iv wr => ∃ k : Nat, k + g = p.length ∧ iv = .int .i64 k ∧ Hid (RSchI p k) ∧ w1 = wr)
  case atStart => exact ⟨0, by omega, rfl, hid ⟨rfl, fun h => absurd h (by omega)⟩, rfl⟩
  case round =>
    obtain ⟨k, hk, rfl, hI, rfl⟩ := hrel
    by_cases hlt : k < p.length
    · have hkT : k < T.size := by omega
      have hnk : (T[k]'hkT) = p[k]'hlt := by
        apply UInt8.toNat_inj.1
        rw [get_of T k hkT, HTL.out]
        have h1 : p[k]? = t[k]? := by
          have := HA.out.1
          rw [this, List.getElem?_take_of_lt hlt]
        have h2 : t[k]? = some (p[k]'hlt) := by rw [← h1]; exact List.getElem?_eq_getElem hlt
        exact U8.B_eq h2
      have hne : (p[k]'hlt) ≠ 58 := HA.out.2.1 _ (List.getElem_mem hlt)
      have hstep := fun h0 h1 => hI.out.next hlt h0 h1
      have hbad := fun h => rschemeV_none (Url.schemeOf_bad HC.out (Url.all_bad hlt h))
      have hfst := fun (hz : k = 0) (h : letterN (p[k]'hlt).toNat = false) => rschemeV_none (Url.schemeOf_first HC.out (show letterN (U8.B p 0) = false by subst hz; rw [U8.B_eq (List.getElem?_eq_getElem hlt)]; exact h))
      rw [← hnk] at hne hstep hbad hfst
      obtain ⟨c, hcT⟩ : ∃ c, (T[k]'hkT) = c := ⟨_, rfl⟩
      rw [hcT] at hne hstep hbad hfst
      have h256 := c.toNat_lt
      have H1 := rletter_any c.toNat (by omega) w1
      have H2 := rdigit_any c.toNat (by omega) w1
      have hm : Url.mayS c = (letterN c.toNat || digitN c.toNat || decide (c.toNat = 43 ∨ c.toNat = 45 ∨ c.toNat = 46)) := rfl
      rw [hm] at hstep hbad
      have hne2 : c.toNat ≠ 58 := fun e => hne (UInt8.toNat_inj.1 (by rw [e]; rfl))
      obtain ⟨n, hn⟩ : ∃ n, c.toNat = n := ⟨_, rfl⟩
      rw [hn] at hstep hbad hfst H1 H2 hne2 h256
      have t1 : ((n : Int) != 58) = true := bne_iff_ne.2 (by omega)
      have d1 : decide (k < T.size) = true := decide_eq_true hkT
      clear hm hnk hne hne2 hI
      cases hl : letterN n with
      | true =>
        rw [hl] at H1 hstep
        have HN := hid (hstep (fun _ => rfl) rfl)
        have H1 := hid H1
        clear hstep hbad hfst H2
        rcases (show k = 0 ∨ 0 < k by omega) with hz | hz
        · have d2 : decide (0 < k) = false := decide_eq_false (by omega)
          clear hz
          go_wp2_with fail
          refine H1.out.mono ?_
          rintro e w4 ⟨rfl, rfl⟩
          go_wp2
          go_roundg (p.length - (k + 1))
          case measure => omega
          case rel => exact ⟨k + 1, by omega, by go_num, HN, rfl⟩
        · have d2 : decide (0 < k) = true := decide_eq_true (by omega)
          go_wp2_with fail
          refine H1.out.mono ?_
          rintro e w4 ⟨rfl, rfl⟩
          go_wp2
          go_roundg (p.length - (k + 1))
          case measure => omega
          case rel => exact ⟨k + 1, by omega, by go_num, HN, rfl⟩
      | false =>
        rw [hl] at H1 hstep hbad hfst
        have H1 := hid H1
        rcases (show k = 0 ∨ 0 < k by omega) with hz | hz
        · have HX := hid (hfst hz rfl)
          have d2 : decide (0 < k) = false := decide_eq_false (by omega)
          clear hstep hbad hfst H2 hz
          go_wp2_with fail
          refine H1.out.mono ?_
          rintro e w4 ⟨rfl, rfl⟩
          go_wp2
          go_returns
          exact ⟨congrArg Ending.returned HX.out.symm, b1⟩
        · have d2 : decide (0 < k) = true := decide_eq_true (by omega)
          replace hstep := hstep (fun e => absurd e (by omega))
          clear hfst
          cases hd : digitN n with
          | true =>
            rw [hd] at H2 hstep
            have H2 := hid H2
            have HN := hid (hstep rfl)
            clear hstep hbad
            go_wp2_with fail
            refine H1.out.mono ?_
            rintro e w4 ⟨rfl, rfl⟩
            go_wp2_with fail
            refine H2.out.mono ?_
            rintro e w4 ⟨rfl, rfl⟩
            go_wp2
            go_roundg (p.length - (k + 1))
            case measure => omega
            case rel => exact ⟨k + 1, by omega, by go_num, HN, rfl⟩
          | false =>
            rw [hd] at H2 hstep hbad
            have H2 := hid H2
            rcases (show n = 43 ∨ n = 45 ∨ n = 46 ∨ (n ≠ 43 ∧ n ≠ 45 ∧ n ≠ 46) by omega) with h4 | h4 | h4 | ⟨h4, h5, h6⟩
            · have HN := hid (hstep (by simp [h4]))
              have t2 : ((n : Int) == 43) = true := by rw [beq_iff_eq]; omega
              clear hstep hbad h4
              go_wp2_with fail
              refine H1.out.mono ?_
              rintro e w4 ⟨rfl, rfl⟩
              go_wp2_with fail
              refine H2.out.mono ?_
              rintro e w4 ⟨rfl, rfl⟩
              go_wp2
              go_roundg (p.length - (k + 1))
              case measure => omega
              case rel => exact ⟨k + 1, by omega, by go_num, HN, rfl⟩
            · have HN := hid (hstep (by simp [h4]))
              have t2 : ((n : Int) == 43) = false := beq_eq_false_iff_ne.2 (by omega)
              have t3 : ((n : Int) == 45) = true := by rw [beq_iff_eq]; omega
              clear hstep hbad h4
              go_wp2_with fail
              refine H1.out.mono ?_
              rintro e w4 ⟨rfl, rfl⟩
              go_wp2_with fail
              refine H2.out.mono ?_
              rintro e w4 ⟨rfl, rfl⟩
              go_wp2
              go_roundg (p.length - (k + 1))
              case measure => omega
              case rel => exact ⟨k + 1, by omega, by go_num, HN, rfl⟩
            · have HN := hid (hstep (by simp [h4]))
              have t2 : ((n : Int) == 43) = false := beq_eq_false_iff_ne.2 (by omega)
              have t3 : ((n : Int) == 45) = false := beq_eq_false_iff_ne.2 (by omega)
              have t4 : ((n : Int) == 46) = true := by rw [beq_iff_eq]; omega
              clear hstep hbad h4
              go_wp2_with fail
              refine H1.out.mono ?_
              rintro e w4 ⟨rfl, rfl⟩
              go_wp2_with fail
              refine H2.out.mono ?_
              rintro e w4 ⟨rfl, rfl⟩
              go_wp2
              go_roundg (p.length - (k + 1))
              case measure => omega
              case rel => exact ⟨k + 1, by omega, by go_num, HN, rfl⟩
            · have HX := hid (hbad (by simp [h4, h5, h6]))
              have t2 : ((n : Int) == 43) = false := beq_eq_false_iff_ne.2 (by omega)
              have t3 : ((n : Int) == 45) = false := beq_eq_false_iff_ne.2 (by omega)
              have t4 : ((n : Int) == 46) = false := beq_eq_false_iff_ne.2 (by omega)
              clear hstep hbad h4 h5 h6
              go_wp2_with fail
              refine H1.out.mono ?_
              rintro e w4 ⟨rfl, rfl⟩
              go_wp2_with fail
              refine H2.out.mono ?_
              rintro e w4 ⟨rfl, rfl⟩
              go_wp2
              go_returns
              exact ⟨congrArg Ending.returned HX.out.symm, b1⟩
    · have hke : k = p.length := by omega
      have hall := Url.all_take_done hI.out.1 hlt
      have hlet := hI.out.2
      cases hm : m with
      | false =>
        subst hm
        have hkT : k = T.size := by rw [hke, HA.out.2.2.2 rfl, HTS.out]
        have HX := hid (rschemeV_none (Url.schemeOf_no HC.out))
        clear hI hall hlet hlt hke hk
        subst hkT
        have d1 : decide (T.size < T.size) = false := decide_eq_false (by omega)
        rcases (show T.size = 0 ∨ 0 < T.size by omega) with hz | hz
        · have d2 : ((T.size : Int) == 0) = true := by rw [beq_iff_eq]; omega
          go_wp2
          go_returns
          exact ⟨congrArg Ending.returned HX.out.symm, b1⟩
        · have d2 : ((T.size : Int) == 0) = false := beq_eq_false_iff_ne.2 (by omega)
          go_wp2
          go_returns
          exact ⟨congrArg Ending.returned HX.out.symm, b1⟩
      | true =>
        subst hm
        have h58 := HA.out.2.2.1 rfl
        have hkT : k < T.size := by rw [HTS.out]; omega
        have hc58 : (T[k]'hkT).toNat = 58 := by
          rw [get_of T k hkT, HTL.out, hke]
          exact U8.B_eq h58.2
        have d1 : decide (k < T.size) = true := decide_eq_true hkT
        have t1 : (((T[k]'hkT).toNat : Int) != 58) = false := by rw [hc58]; rfl
        by_cases hz : k = 0
        · have hp : p = [] := List.eq_nil_of_length_eq_zero (by omega)
          have HX := hid (rschemeV_none (Url.schemeOf_nil (by have := HC.out; rw [hp] at this; exact this)))
          have d2 : ((k : Int) == 0) = true := by rw [beq_iff_eq]; omega
          clear hI hall hlet h58 hc58 hz hke hlt hp hk
          go_wp2
          go_returns
          exact ⟨congrArg Ending.returned HX.out.symm, b1⟩
        · have hp : p ≠ [] := fun e => hz (by rw [hke, e]; rfl)
          have HX := hid (rschemeV_some (Url.schemeOf_yes HC.out hp (hlet (by omega)) hall))
          have d2 : ((k : Int) == 0) = false := beq_eq_false_iff_ne.2 (by omega)
          have d3 : (k == T.size) = false := beq_eq_false_iff_ne.2 (by omega)
          have d4 : ((k : Int) == (T.size : Int)) = false := beq_eq_false_iff_ne.2 (by omega)
          have hxl : (T.extract 0 k).data.toList = p := by rw [extract_list, HTL.out, hke]; exact HA.out.1.symm
          have hxz : (T.extract 0 k).size = k := size_extract0 T k (by omega)
          have HLo := rlower_any (T.extract 0 k) w1 (by omega)
          rw [hxl] at HLo
          have HLo := hid HLo
          have q1 : (k : Int) ≤ (T.size : Int) := by omega
          have q3 : k ≤ T.size := by omega
          clear hI hall hlet h58 hc58 hxl hxz hz hke hlt hk
          go_wp2_with fail
          refine HLo.out.mono ?_
          rintro e w4 ⟨rfl, b4⟩
          have c4 := hid (b1.trans (b4.mono b1.size))
          go_wp2
          go_returns
          exact ⟨congrArg Ending.returned HX.out.symm, c4.out⟩
end Go.Proofs.YtoipadpgpnkdkaaDoor
