/- Walks: package url, Scheme. -/
import Derived.Test.YtpheaepifjcmiaaDoorStrip
import Derived.Test.YtpheaepifjcmiaaDoorLower
import Derived.Test.YtpheaepifjcmiaaDoorUrlCut
import Derived.Handy
namespace Go.Proofs.YtpheaepifjcmiaaDoor
open Go.RowKit Go.Lib
set_option maxRecDepth 100000
set_option linter.unusedVariables false

theorem stands_s (c : UInt8) : standsB [43, 45, 46] c = Url.mayS c := by
  have : ∀ n : Fin 256, standsB [43, 45, 46] (UInt8.ofNat n.val) = Url.mayS (UInt8.ofNat n.val) := by decide +kernel
  have h := this ⟨c.toNat, c.toNat_lt⟩
  simpa using h
theorem stands_e (c : UInt8) : standsB [45, 95, 46, 43, 33, 42, 39, 40, 41, 44, 37, 35, 64, 63, 61, 59, 58, 47, 38, 36, 126] c = Url.mayE c := by
  have : ∀ n : Fin 256, standsB [45, 95, 46, 43, 33, 42, 39, 40, 41, 44, 37, 35, 64, 63, 61, 59, 58, 47, 38, 36, 126] (UInt8.ofNat n.val) = Url.mayE (UInt8.ofNat n.val) := by decide +kernel
  have h := this ⟨c.toNat, c.toNat_lt⟩
  simpa using h
def schemeV (o : Option (List UInt8)) : Value := match o with
  | none => .tuple #[.string ⟨#[]⟩, .bool false]
  | some x => .tuple #[.string ⟨x.toArray⟩, .bool true]
theorem schemeV_none {o : Option (List UInt8)} (h : o = none) : schemeV o = .tuple #[.string ⟨#[]⟩, .bool false] := by rw [h]; rfl
theorem schemeV_some {o : Option (List UInt8)} {x : List UInt8} (h : o = some x) : schemeV o = .tuple #[.string ⟨x.toArray⟩, .bool true] := by rw [h]; rfl
theorem cutc_any (s : ByteArray) (w : World) (hs : s.size ≤ 4000000) (hm : MaxCell w) :
    Calls Tryd.prog 41 #[.string s, .string ⟨#[58]⟩] w fun e w' => e = .returned (.tuple #[.string ⟨(cut s.data.toList [58]).1.toArray⟩, .string ⟨(cut s.data.toList [58]).2.1.toArray⟩, .bool (cut s.data.toList [58]).2.2]) ∧ Below w.heap.size w w' := by
  obtain ⟨m, hm⟩ := hm
  refine (Tryd.strings_Cut s ⟨#[58]⟩ m w (by omega) hm).mono ?_
  rintro e w' ⟨rfl, n, rfl⟩
  exact ⟨rfl, bel_drewN (Below.refl _ _) n⟩
theorem cut_len (t : List UInt8) : (cut t [58]).1.length ≤ t.length := by
  rcases Url.cut_one 58 t with ⟨p, q, h1, h2, _⟩ | ⟨h1, _⟩
  · rw [h1, h2]; simp
  · rw [h1]; exact Nat.le_refl _

set_option maxHeartbeats 4000000 in
theorem scheme_any (s0 : ByteArray) (w : World) (hs : s0.size ≤ 4000000) (hT : UrlW w) :
    Calls Tryd.prog 35 #[.string s0] w fun e w' => e = .returned (schemeV (Url.scheme s0.data.toList)) ∧ Below w.heap.size w w' := by
  have HS := strip_any s0 w hs hT
  have hle := Url.strip_le s0.data.toList
  rw [size_list] at hle
  have hX : Url.scheme s0.data.toList = Url.schemeOf (Url.strip s0.data.toList) := rfl
  rw [hX]
  obtain ⟨t, ht⟩ : ∃ t, Url.strip s0.data.toList = t := ⟨_, rfl⟩
  rw [ht] at HS hle ⊢
  have HC := fun w h => cutc_any ⟨t.toArray⟩ w (by simp [ByteArray.size]; omega) h
  rw [to_bytes] at HC
  have hpl := cut_len t
  obtain ⟨p, q, m, hc⟩ : ∃ p q m, cut t [58] = (p, q, m) := ⟨_, _, _, rfl⟩
  rw [hc] at HC hpl
  simp only at HC hpl
  have HS := hid HS
  have HC := hid HC
  have HT := hid hT
  obtain ⟨n, hn⟩ : ∃ n : ByteArray, n = ⟨p.toArray⟩ := ⟨_, rfl⟩
  have hnl : n.data.toList = p := by rw [hn]
  have hns : n.size = p.length := by rw [← size_list, hnl]
  rw [← hn] at HC
  clear hT hX ht hn
  cases m with
  | false =>
    rw [schemeV_none (Url.schemeOf_no hc)]
    clear hc
    go_enter Tryd.func35, Tryd.ntmps35
    go_wp2_with fail
    refine HS.out.mono ?_
    rintro e w1 ⟨rfl, b1⟩
    go_wp2_with fail
    refine (HC.out _ (url_below HT.out b1).2).mono ?_
    rintro e w2 ⟨rfl, b2⟩
    have c2 := b1.trans (b2.mono b1.size)
    clear b1 b2
    go_wp2
    go_returns
    exact ⟨rfl, c2⟩
  | true =>
    by_cases hp : p = []
    · rw [schemeV_none (Url.schemeOf_nil (by rw [hp] at hc; exact hc))]
      have t0 : n.toList.isEmpty = true := by rw [ByteArray.toList_eq, hnl, hp]; rfl
      clear hc
      go_enter Tryd.func35, Tryd.ntmps35
      go_wp2_with fail
      refine HS.out.mono ?_
      rintro e w1 ⟨rfl, b1⟩
      go_wp2_with fail
      refine (HC.out _ (url_below HT.out b1).2).mono ?_
      rintro e w2 ⟨rfl, b2⟩
      have c2 := b1.trans (b2.mono b1.size)
      clear b1 b2
      go_wp2
      go_returns
      exact ⟨rfl, c2⟩
    · have hpp : 0 < n.size := by rw [hns]; exact List.length_pos_iff.2 hp
      have t0 : n.toList.isEmpty = false := by rw [ByteArray.toList_eq, hnl]; cases hpc : p with | nil => exact absurd hpc hp | cons _ _ => rfl
      have hg0 := get_of n 0 hpp
      rw [hnl] at hg0
      have hlt0 := (n[0]'hpp).toNat_lt
      have HL := fun w => cletter_any (n[0]'hpp).toNat (by omega) w
      rw [hg0] at HL
      cases hl : letterN (U8.B p 0) with
      | false =>
        rw [schemeV_none (Url.schemeOf_first hc hl)]
        rw [hl] at HL
        simp only [← hg0] at HL
        have HL := hid HL
        clear hc hl hg0
        go_enter Tryd.func35, Tryd.ntmps35
        go_wp2_with fail
        refine HS.out.mono ?_
        rintro e w1 ⟨rfl, b1⟩
        go_wp2_with fail
        refine (HC.out _ (url_below HT.out b1).2).mono ?_
        rintro e w2 ⟨rfl, b2⟩
        have c2 := b1.trans (b2.mono b1.size)
        clear b1 b2
        go_wp2_with fail
        refine (HL.out _).mono ?_
        rintro e w3 ⟨rfl, rfl⟩
        go_wp2
        go_returns
        exact ⟨rfl, c2⟩
      | true =>
        rw [hl] at HL
        simp only [← hg0] at HL
        have HL := hid HL
        have HCC := hid hc
        have HLL := hid hl
        clear hc hl hg0
        go_enter Tryd.func35, Tryd.ntmps35
        go_wp2_with fail
        refine HS.out.mono ?_
        rintro e w1 ⟨rfl, b1⟩
        go_wp2_with fail
        refine (HC.out _ (url_below HT.out b1).2).mono ?_
        rintro e w2 ⟨rfl, b2⟩
        have c2 := b1.trans (b2.mono b1.size)
        clear b1 b2
        go_wp2_with fail
        refine (HL.out _).mono ?_
        rintro e w3 ⟨rfl, rfl⟩
        go_wp2_with fail
        refine (standing_any _ _).mono ?_
        rintro e w3 ⟨rfl, rfl⟩
        have c3 := c2.alloc c2.size (.cells #[.string ⟨#[43, 45, 46]⟩] 9)
        have cell : (w2.alloc (.cells #[.string ⟨#[43, 45, 46]⟩] 9)).cell? ⟨w2.heap.size, 0, none⟩ = some (.string ⟨#[43, 45, 46]⟩) := by simp
        obtain ⟨W, hW⟩ : ∃ W, w2.alloc (.cells #[.string ⟨#[43, 45, 46]⟩] 9) = W := ⟨_, rfl⟩
        obtain ⟨B, hB⟩ : ∃ B, w2.heap.size = B := ⟨_, rfl⟩
        rw [hW, hB] at cell
        rw [hW] at c3 ⊢
        rw [hB]
        have HF := hid (fun c => stands_any ⟨#[43, 45, 46]⟩ B c W cell)
        clear hW hB cell c2
        go_wp2
        go_loopg [31] n.size (fun g iv wr => ∃ k : Nat, k + g = n.size ∧ iv = .int .i64 k ∧ Hid ((p.take k).all Url.mayS = true) ∧ W = wr)
        case atStart => exact ⟨0, by omega, rfl, hid rfl, rfl⟩
        case round =>
          obtain ⟨k, hk, rfl, hI, rfl⟩ := hrel
          by_cases hlt : k < n.size
          · have hkp : k < p.length := by omega
            have hnk : (n[k]'hlt) = p[k]'hkp := by
              apply UInt8.toNat_inj.1
              rw [get_of n k hlt, hnl, U8.B_eq (List.getElem?_eq_getElem hkp)]
            have d1 : decide (k < n.size) = true := decide_eq_true hlt
            have HF1 := HF.out (n[k]'hlt)
            rw [stands_s] at HF1
            cases hm : Url.mayS (n[k]'hlt) with
            | true =>
              have HN := hid (Url.all_take_next hI.out hkp (by rw [← hnk]; exact hm))
              rw [hm] at HF1
              have HF1 := hid HF1
              clear hnk hm hI
              go_wp2_with fail
              refine HF1.out.mono ?_
              rintro e w4 ⟨rfl, rfl⟩
              go_wp2
              go_roundg (n.size - (k + 1))
              case measure => omega
              case rel => exact ⟨k + 1, by omega, by go_num, HN, rfl⟩
            | false =>
              have HX := hid (schemeV_none (Url.schemeOf_bad HCC.out (Url.all_bad hkp (by rw [← hnk]; exact hm))))
              rw [hm] at HF1
              have HF1 := hid HF1
              clear hnk hm hI
              go_wp2_with fail
              refine HF1.out.mono ?_
              rintro e w4 ⟨rfl, rfl⟩
              go_wp2
              go_returns
              exact ⟨congrArg Ending.returned HX.out.symm, c3⟩
          · have HX := hid (schemeV_some (Url.schemeOf_yes HCC.out hp HLL.out (Url.all_take_done hI.out (by omega))))
            have d1 : decide (k < n.size) = false := decide_eq_false hlt
            have HLo := clower_any n W (by omega)
            rw [hnl] at HLo
            have HLo := hid HLo
            clear hI
            go_wp2_with fail
            refine HLo.out.mono ?_
            rintro e w4 ⟨rfl, b4⟩
            have c4 := hid (c3.trans (b4.mono c3.size))
            go_wp2
            go_returns
            exact ⟨congrArg Ending.returned HX.out.symm, c4.out⟩
end Go.Proofs.YtpheaepifjcmiaaDoor
