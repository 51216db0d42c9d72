/- Walks over the program's layer 13: point, and what tells that an annotation is written in HTML. Written by tools/gen_ppoint.py. -/
import Derived.Test.YtlgmjnnfndedbaaMarkM
import Derived.Test.YtlgmjnnfndedbaaLower
import Derived.Deep.LoopGhost
import Derived.IntWalk
namespace Go.Proofs.Ytlgmjnnfndedbaa
open Go.RowKit Go.Lib
set_option maxRecDepth 100000
set_option linter.unusedVariables false
theorem ret_bP {a b : Bool} (h : a = b) : Ending.returned (.bool a) = .returned (.bool b) := by rw [h]
set_option maxHeartbeats 4000000 in
theorem psays_any (p : List UInt8 × List UInt8) (w : World) (hs : p.2.length ≤ 4294967296) :
    Calls Try.prog 64 #[.agg #[.string (bs p.1), .string (bs p.2)]] w fun e w' => e = .returned (.bool (Plc.encB p)) ∧ Below w.heap.size w w' := by
  have b0 : Below w.heap.size w (w.alloc (.cells #[.string (bs p.1), .string (bs p.2)] 91)) := (Below.refl _ w).alloc (Nat.le_refl _) _
  have hps : (bs p.2).size ≤ 4294967296 := hs
  have HML := hid (clower_any (bs p.2) (w.alloc (.cells #[.string (bs p.1), .string (bs p.2)] 91)) hps)
  have HB := hid b0
  obtain ⟨lv, hlv⟩ : ∃ lv, lowL p.2 = lv := ⟨_, rfl⟩
  have hlow : lowL (bs p.2).data.toList = lv := hlv
  rw [hlow] at HML
  have hE0 : ((bs p.1).toList == [101, 110, 99, 111, 100, 105, 110, 103]) = decide (p.1 = [101, 110, 99, 111, 100, 105, 110, 103]) := bs_nameB
  have hE1 : ((⟨lv.toArray⟩ : ByteArray).toList == [116, 101, 120, 116, 47, 104, 116, 109, 108]) = decide (lv = [116, 101, 120, 116, 47, 104, 116, 109, 108]) := bs_nameB
  have hE2 : ((⟨lv.toArray⟩ : ByteArray).toList == [97, 112, 112, 108, 105, 99, 97, 116, 105, 111, 110, 47, 120, 104, 116, 109, 108, 43, 120, 109, 108]) = decide (lv = [97, 112, 112, 108, 105, 99, 97, 116, 105, 111, 110, 47, 120, 104, 116, 109, 108, 43, 120, 109, 108]) := bs_nameB
  have HEB := hid (show Plc.encB p = (decide (p.1 = [101, 110, 99, 111, 100, 105, 110, 103]) && (decide (lv = [116, 101, 120, 116, 47, 104, 116, 109, 108]) || decide (lv = [97, 112, 112, 108, 105, 99, 97, 116, 105, 111, 110, 47, 120, 104, 116, 109, 108, 43, 120, 109, 108]))) by rw [← hlv]; rfl)
  obtain ⟨q0, hq0⟩ : ∃ q, decide (p.1 = [101, 110, 99, 111, 100, 105, 110, 103]) = q := ⟨_, rfl⟩
  obtain ⟨q1, hq1⟩ : ∃ q, decide (lv = [116, 101, 120, 116, 47, 104, 116, 109, 108]) = q := ⟨_, rfl⟩
  obtain ⟨q2, hq2⟩ : ∃ q, decide (lv = [97, 112, 112, 108, 105, 99, 97, 116, 105, 111, 110, 47, 120, 104, 116, 109, 108, 43, 120, 109, 108]) = q := ⟨_, rfl⟩
  rw [hq0] at hE0 HEB
  rw [hq1] at hE1 HEB
  rw [hq2] at hE2 HEB
  generalize (⟨lv.toArray⟩ : ByteArray) = LV at *
  generalize bs p.1 = PN at *
  generalize bs p.2 = PV at *
  clear b0 hq0 hq1 hq2 hlow hlv hps hs
  cases q0 with
  | false =>
    have hN : (!(PN.toList == [101, 110, 99, 111, 100, 105, 110, 103])) = true := by rw [hE0]; rfl
    go_enter Try.func64, Try.ntmps64
    go_wp2_with fail
    go_ret
    exact ⟨ret_bP (by rw [HEB.out]; rfl), HB.out⟩
  | true =>
    have hN : (!(PN.toList == [101, 110, 99, 111, 100, 105, 110, 103])) = false := by rw [hE0]; rfl
    go_enter Try.func64, Try.ntmps64
    go_wp2_with fail
    refine HML.out.mono ?_
    rintro e w3 ⟨rfl, bx⟩
    have HB3 := hid (HB.out.trans (bx.mono HB.out.size))
    clear HML bx
    cases q1 with
    | true =>
      go_wp2_with fail
      go_ret
      exact ⟨ret_bP (by rw [HEB.out]; first | rfl | simp), HB3.out⟩
    | false =>
      cases q2 with
      | true =>
        go_wp2_with fail
        go_ret
        exact ⟨ret_bP (by rw [HEB.out]; first | rfl | simp), HB3.out⟩
      | false =>
        go_wp2_with fail
        go_ret
        exact ⟨ret_bP (by rw [HEB.out]; first | rfl | simp), HB3.out⟩
/-- Where the first one is of which it holds, told by its sign alone. -/
def FoundP (b : Bool) (w : World) (e : Ending) (w' : World) : Prop := ∃ n : Int, decide (0 ≤ n) = b ∧ e = .returned (.int .i64 n) ∧ Below w.heap.size w w'
set_option maxHeartbeats 4000000 in
theorem pindexA_any (a : Option Addr) (n c : Nat) (atts : List (List UInt8 × List UInt8)) (w : World) (h : IsA w a n atts) (hn : n ≤ 1000000000) (hs : ∀ p ∈ atts, p.2.length ≤ 4294967296) :
    Calls Try.prog 87 #[.slice a n c, .func (.func 64) #[] #[]] w (FoundP (atts.any Plc.encB) w) := by
  have HA := hid h
  have HS := hid hs
  have hnl := h.1
  obtain ⟨R, hR⟩ : ∃ R, atts.any Plc.encB = R := ⟨_, rfl⟩
  rw [hR]
  have HR := hid hR
  clear h hR hs
  go_enter Try.func87, Try.ntmps87
  go_wp2
  go_loopg [8] n (fun g iv wr => ∃ k : Nat, k + g = n ∧ iv = .int .i64 k ∧ Hid ((atts.take k).any Plc.encB = false) ∧ Below w.heap.size w wr)
  case atStart => exact ⟨0, by omega, rfl, hid rfl, Below.refl _ _⟩
  case round =>
    obtain ⟨k, hk, rfl, hI, hb⟩ := hrel
    by_cases hlt : k < n
    · have d1 : decide (k < n) = true := decide_eq_true hlt
      have hltI : (k : Int) < (n : Int) := by omega
      obtain ⟨p, hp⟩ : ∃ p, atts[k]? = some p := ⟨_, List.getElem?_eq_getElem (by omega)⟩
      obtain ⟨_, h9 | ⟨ab, ao, rfl, hat⟩⟩ := HA.out.below hb
      · omega
      obtain ⟨e0, e1⟩ := hat k p hp
      have HX := hid (psays_any p wr (HS.out p (List.mem_of_getElem? hp)))
      have HST := hid (show (atts.take (k + 1)).any Plc.encB = Plc.encB p by
        rw [List.take_add_one, hp, List.any_append, hI.out]
        simp)
      have HEM := hid (show Plc.encB p = true → R = true from fun e => by
        rw [← HR.out]
        exact List.any_eq_true.2 ⟨p, List.mem_of_getElem? hp, e⟩)
      generalize Plc.encB p = q at *
      clear hat hp hI
      go_wp2_with fail
      refine HX.out.mono ?_
      rintro e w3 ⟨rfl, bx⟩
      have HB3 := hid (hb.trans (bx.mono hb.size))
      clear HX bx e0 e1 hb
      cases q with
      | true =>
        have HR2 := hid (HEM.out rfl)
        clear HEM
        go_wp2
        go_ret
        exact ⟨k, by rw [HR2.out]; exact decide_eq_true (by omega), rfl, HB3.out⟩
      | false =>
        clear HEM
        go_wp2
        go_roundg (n - (k + 1))
        case measure => omega
        case rel => exact ⟨k + 1, by omega, by go_num, HST, HB3.out⟩
    · have d1 : decide (k < n) = false := decide_eq_false hlt
      have hltI : ¬ (k : Int) < (n : Int) := by omega
      have HR2 := hid (show R = false by rw [← HR.out, ← hI.out, List.take_of_length_le (by omega)])
      clear hI
      go_wp2
      go_ret
      exact ⟨-1, by rw [HR2.out]; rfl, rfl, hb⟩
theorem pcontainsA_any (a : Option Addr) (n c : Nat) (atts : List (List UInt8 × List UInt8)) (w : World) (h : IsA w a n atts) (hn : n ≤ 1000000000) (hs : ∀ p ∈ atts, p.2.length ≤ 4294967296) :
    Calls Try.prog 63 #[.slice a n c, .func (.func 64) #[] #[]] w fun e w' => e = .returned (.bool (atts.any Plc.encB)) ∧ Below w.heap.size w w' := by
  have HI := hid (pindexA_any a n c atts w h hn hs)
  generalize atts.any Plc.encB = q at *
  clear h
  go_enter Try.func63, Try.ntmps63
  go_wp2_with fail
  refine HI.out.mono ?_
  rintro e w1 ⟨m, hm, rfl, b1⟩
  have HB := hid b1
  clear b1 HI
  go_wp2
  go_ret
  exact ⟨rfl, HB.out⟩
theorem ppoint_html (kd : Int) (X tx : ByteArray) (cl : Bool) (aa : Option Addr) (an ac : Nat) (w : World) (sp : Nat) (h1 : sp ≠ 1) (h2 : sp ≠ 2) :
    Calls Try.prog 35 #[.int .u8 sp, .agg #[.int .u8 kd, .string X, .slice aa an ac, .bool cl, .string tx]] w fun e w' => e = .returned (.int .u8 0) ∧ Below w.heap.size w w' := by
  have b0 := (Below.refl w.heap.size w).alloc (Nat.le_refl _) (.cells #[.int .u8 kd, .string X, .slice aa an ac, .bool cl, .string tx] 31)
  have HB0 := hid b0
  have d1 : ((sp : Int) == 1) = false := by simp; omega
  have d2 : ((sp : Int) == 2) = false := by simp; omega
  have d3 : decide (sp = 1) = false := decide_eq_false h1
  have d4 : decide (sp = 2) = false := decide_eq_false h2
  go_enter Try.func35, Try.ntmps35
  go_wp2_with fail
  go_ret
  exact ⟨rfl, HB0.out⟩
set_option maxHeartbeats 4000000 in
theorem ppoint_svg (kd : Int) (X tx : ByteArray) (cl : Bool) (aa : Option Addr) (an ac : Nat) (w : World) (b : Bool) (v : Int) (hv : v = if b then 2 else 0) (hb : b = ((X.toList == [100, 101, 115, 99]) || (X.toList == [102, 111, 114, 101, 105, 103, 110, 79, 98, 106, 101, 99, 116]) || (X.toList == [116, 105, 116, 108, 101]))) :
    Calls Try.prog 35 #[.int .u8 1, .agg #[.int .u8 kd, .string X, .slice aa an ac, .bool cl, .string tx]] w fun e w' => e = .returned (.int .u8 v) ∧ Below w.heap.size w w' := by
  have b0 := (Below.refl w.heap.size w).alloc (Nat.le_refl _) (.cells #[.int .u8 kd, .string X, .slice aa an ac, .bool cl, .string tx] 31)
  have HB0 := hid b0
  cases hn0 : (X.toList == [100, 101, 115, 99]) with
  | true =>
    obtain rfl : b = true := by rw [hb]; simp_all
    clear hb
    obtain rfl : v = 2 := hv
    go_enter Try.func35, Try.ntmps35
    go_wp2_with fail
    go_ret
    exact ⟨rfl, HB0.out⟩
  | false =>
    cases hn1 : (X.toList == [102, 111, 114, 101, 105, 103, 110, 79, 98, 106, 101, 99, 116]) with
    | true =>
      obtain rfl : b = true := by rw [hb]; simp_all
      clear hb
      obtain rfl : v = 2 := hv
      go_enter Try.func35, Try.ntmps35
      go_wp2_with fail
      go_ret
      exact ⟨rfl, HB0.out⟩
    | false =>
      cases hn2 : (X.toList == [116, 105, 116, 108, 101]) with
      | true =>
        obtain rfl : b = true := by rw [hb]; simp_all
        clear hb
        obtain rfl : v = 2 := hv
        go_enter Try.func35, Try.ntmps35
        go_wp2_with fail
        go_ret
        exact ⟨rfl, HB0.out⟩
      | false =>
        obtain rfl : b = false := by rw [hb]; simp_all
        clear hb
        obtain rfl : v = 0 := hv
        go_enter Try.func35, Try.ntmps35
        go_wp2_with fail
        go_ret
        exact ⟨rfl, HB0.out⟩
set_option maxHeartbeats 4000000 in
theorem ppoint_math (kd : Int) (X tx : ByteArray) (cl : Bool) (aa : Option Addr) (an ac : Nat) (w : World) (hb : ((X.toList == [109, 105]) || (X.toList == [109, 110]) || (X.toList == [109, 111]) || (X.toList == [109, 115]) || (X.toList == [109, 116, 101, 120, 116])) = true) :
    Calls Try.prog 35 #[.int .u8 2, .agg #[.int .u8 kd, .string X, .slice aa an ac, .bool cl, .string tx]] w fun e w' => e = .returned (.int .u8 1) ∧ Below w.heap.size w w' := by
  have b0 := (Below.refl w.heap.size w).alloc (Nat.le_refl _) (.cells #[.int .u8 kd, .string X, .slice aa an ac, .bool cl, .string tx] 31)
  have HB0 := hid b0
  cases hn0 : (X.toList == [109, 105]) with
  | true =>
    clear hb
    go_enter Try.func35, Try.ntmps35
    go_wp2_with fail
    go_ret
    exact ⟨rfl, HB0.out⟩
  | false =>
    cases hn1 : (X.toList == [109, 110]) with
    | true =>
      clear hb
      go_enter Try.func35, Try.ntmps35
      go_wp2_with fail
      go_ret
      exact ⟨rfl, HB0.out⟩
    | false =>
      cases hn2 : (X.toList == [109, 111]) with
      | true =>
        clear hb
        go_enter Try.func35, Try.ntmps35
        go_wp2_with fail
        go_ret
        exact ⟨rfl, HB0.out⟩
      | false =>
        cases hn3 : (X.toList == [109, 115]) with
        | true =>
          clear hb
          go_enter Try.func35, Try.ntmps35
          go_wp2_with fail
          go_ret
          exact ⟨rfl, HB0.out⟩
        | false =>
          cases hn4 : (X.toList == [109, 116, 101, 120, 116]) with
          | true =>
            clear hb
            go_enter Try.func35, Try.ntmps35
            go_wp2_with fail
            go_ret
            exact ⟨rfl, HB0.out⟩
          | false =>
            exact absurd hb (by simp_all)
set_option maxHeartbeats 4000000 in
theorem ppoint_ann (kd : Int) (X tx : ByteArray) (cl : Bool) (aa : Option Addr) (an ac : Nat) (w : World) (m0 : (X.toList == [109, 105]) = false) (m1 : (X.toList == [109, 110]) = false) (m2 : (X.toList == [109, 111]) = false) (m3 : (X.toList == [109, 115]) = false) (m4 : (X.toList == [109, 116, 101, 120, 116]) = false) (atts : List (List UInt8 × List UInt8)) (hA : IsA w aa an atts) (h1 : an ≤ 1000000000) (hs : ∀ p ∈ atts, p.2.length ≤ 4294967296) (b : Bool) (v : Int) (hv : v = if b then 2 else 0) (hb : b = ((X.toList == [97, 110, 110, 111, 116, 97, 116, 105, 111, 110, 45, 120, 109, 108]) && atts.any Plc.encB)) :
    Calls Try.prog 35 #[.int .u8 2, .agg #[.int .u8 kd, .string X, .slice aa an ac, .bool cl, .string tx]] w fun e w' => e = .returned (.int .u8 v) ∧ Below w.heap.size w w' := by
  have b0 := (Below.refl w.heap.size w).alloc (Nat.le_refl _) (.cells #[.int .u8 kd, .string X, .slice aa an ac, .bool cl, .string tx] 31)
  have HB0 := hid b0
  have HCF := hid (pcontainsA_any aa an ac atts _ (hA.below b0) h1 hs)
  generalize atts.any Plc.encB = q at *
  clear hA b0 hs
  cases na : (X.toList == [97, 110, 110, 111, 116, 97, 116, 105, 111, 110, 45, 120, 109, 108]) with
  | false =>
    obtain rfl : b = false := by rw [hb, na]; rfl
    clear hb HCF
    obtain rfl : v = 0 := hv
    go_enter Try.func35, Try.ntmps35
    go_wp2_with fail
    go_ret
    exact ⟨rfl, HB0.out⟩
  | true =>
    obtain rfl : b = q := by rw [hb, na]; rfl
    clear hb
    cases b with
    | true =>
      obtain rfl : v = 2 := hv
      go_enter Try.func35, Try.ntmps35
      go_wp2_with fail
      refine HCF.out.mono ?_
      rintro e w2 ⟨rfl, b2⟩
      have HB2 := hid (HB0.out.trans (b2.mono HB0.out.size))
      clear HCF b2
      go_wp2_with fail
      go_ret
      exact ⟨rfl, HB2.out⟩
    | false =>
      obtain rfl : v = 0 := hv
      go_enter Try.func35, Try.ntmps35
      go_wp2_with fail
      refine HCF.out.mono ?_
      rintro e w2 ⟨rfl, b2⟩
      have HB2 := hid (HB0.out.trans (b2.mono HB0.out.size))
      clear HCF b2
      go_wp2_with fail
      go_ret
      exact ⟨rfl, HB2.out⟩
theorem ppoint_any (sp : Nat) (kd : Int) (nm : List UInt8) (tx : ByteArray) (cl : Bool) (aa : Option Addr) (an ac : Nat) (atts : List (List UInt8 × List UInt8)) (w : World) (hA : IsA w aa an atts) (h1 : an ≤ 1000000000) (hs : ∀ p ∈ atts, p.2.length ≤ 4294967296) :
    Calls Try.prog 35 #[.int .u8 sp, .agg #[.int .u8 kd, .string (bs nm), .slice aa an ac, .bool cl, .string tx]] w fun e w' => e = .returned (.int .u8 (Plc.pointN sp nm atts : Nat)) ∧ Below w.heap.size w w' := by
  by_cases hS : sp = 1
  · subst hS
    have e : (Plc.pointN 1 nm atts : Nat) = if decide (nm ∈ Plc.svgN) then 2 else 0 := by
      unfold Plc.pointN
      by_cases hn : nm ∈ Plc.svgN <;> simp [hn]
    rw [e]
    refine ppoint_svg kd (bs nm) tx cl aa an ac w (decide (nm ∈ Plc.svgN)) _ (by split <;> rfl) ?_
    rw [bs_nameB, bs_nameB, bs_nameB]
    simp only [Plc.svgN, List.mem_cons, List.not_mem_nil, or_false, Bool.decide_or, Bool.or_assoc]
  · by_cases hM : sp = 2
    · subst hM
      by_cases hn : nm ∈ Plc.mathN
      · have e : (Plc.pointN 2 nm atts : Nat) = 1 := by unfold Plc.pointN; simp [hn]
        rw [e]
        refine ppoint_math kd (bs nm) tx cl aa an ac w ?_
        rw [bs_nameB, bs_nameB, bs_nameB, bs_nameB, bs_nameB]
        simp only [Plc.mathN, List.mem_cons, List.not_mem_nil, or_false] at hn
        simpa [or_assoc] using hn
      · have hn2 := hn
        simp only [Plc.mathN, List.mem_cons, List.not_mem_nil, or_false, not_or] at hn2
        obtain ⟨q0, q1, q2, q3, q4⟩ := hn2
        have e : (Plc.pointN 2 nm atts : Nat) = if (decide (nm = Plc.annN) && atts.any Plc.encB) then 2 else 0 := by
          unfold Plc.pointN
          rw [if_neg (by omega), if_pos rfl, if_neg hn]
          by_cases ha : nm = Plc.annN <;> by_cases hb : atts.any Plc.encB = true <;> simp [ha, hb]
        rw [e]
        refine ppoint_ann kd (bs nm) tx cl aa an ac w (by rw [bs_nameB]; exact decide_eq_false q0) (by rw [bs_nameB]; exact decide_eq_false q1) (by rw [bs_nameB]; exact decide_eq_false q2) (by rw [bs_nameB]; exact decide_eq_false q3) (by rw [bs_nameB]; exact decide_eq_false q4) atts hA h1 hs (decide (nm = Plc.annN) && atts.any Plc.encB) _ (by split <;> rfl) ?_
        rw [bs_nameB]
        rfl
    · have e : (Plc.pointN sp nm atts : Nat) = 0 := by unfold Plc.pointN; simp [hS, hM]
      rw [e]
      exact ppoint_html kd (bs nm) tx cl aa an ac w sp hS hM
end Go.Proofs.Ytlgmjnnfndedbaa
