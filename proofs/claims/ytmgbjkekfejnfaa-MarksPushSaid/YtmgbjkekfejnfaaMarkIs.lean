/- Walks over the program's package marks: whether an attribute stands among others; markers; the first mark of a number. -/
import Derived.Test.YtmgbjkekfejnfaaMarkRb
import Derived.Deep.LoopGhost
import Derived.IntWalk
namespace Go.Proofs.Ytmgbjkekfejnfaa
open Go.RowKit Go.Lib
set_option maxRecDepth 100000
set_option linter.unusedVariables false

def FoundI (b : Bool) (w : World) (e : Ending) (w' : World) : Prop := ∃ n : Int, decide (0 ≤ n) = b ∧ e = .returned (.int .i64 n) ∧ Below w.heap.size w w'
theorem found_yes {b : Bool} {w w' : World} {n : Nat} (h : b = true) (hb : Below w.heap.size w w') : FoundI b w (.returned (.int .i64 n)) w' := ⟨n, by rw [h]; exact decide_eq_true (by omega), rfl, hb⟩
theorem found_no {b : Bool} {w w' : World} (h : b = false) (hb : Below w.heap.size w w') : FoundI b w (.returned (.int .i64 (-1))) w' := ⟨-1, by rw [h]; rfl, rfl, hb⟩
theorem pair_next {ls : List (List UInt8 × List UInt8)} {k : Nat} {z v : List UInt8 × List UInt8} (h : (ls.take k).contains v = false) (hz : ls[k]? = some z) (hne : z ≠ v) : (ls.take (k + 1)).contains v = false := by
  rw [List.take_add_one, hz]
  cases hc : (ls.take k ++ [z]).contains v with
  | false => exact hc
  | true =>
    rcases List.mem_append.1 (List.contains_iff_mem.1 hc) with h1 | h1
    · rw [List.contains_iff_mem.2 h1] at h; cases h
    · exact absurd (List.mem_singleton.1 h1).symm hne
set_option maxHeartbeats 2000000 in
theorem indexT_any (a : Option Addr) (len cap : Nat) (ls : List (List UInt8 × List UInt8)) (x y : List UInt8) (w : World) (h : IsA w a len ls) (hs : len ≤ 9223372036854775807) (hlc : len ≤ cap) (hcm : cap ≤ 9223372036854775807) :
    Calls Try.prog 39 #[.slice a len cap, .agg #[.string (bs x), .string (bs y)]] w (FoundI (ls.contains (x, y)) w) := by
  have HH := hid h
  clear h
  obtain ⟨X, hX⟩ : ∃ X, bs x = X := ⟨_, rfl⟩
  obtain ⟨Y, hY⟩ : ∃ Y, bs y = Y := ⟨_, rfl⟩
  rw [hX, hY]
  have HX := hid hX
  have HY := hid hY
  obtain ⟨c, hc⟩ : ∃ c, ls.contains (x, y) = c := ⟨_, rfl⟩
  rw [hc]
  have HC := hid hc
  clear hX hY hc
  go_enter Try.func39, Try.ntmps39
  go_wp2
  go_loopg [8] len (fun g iv wr => ∃ k : Nat, k + g = len ∧ iv = .int .i64 k ∧ Hid ((ls.take k).contains (x, y) = false) ∧ Below w.heap.size w wr ∧ wr.cell? ⟨w.heap.size, 0, none⟩ = some (.string X) ∧ wr.cell? ⟨w.heap.size, 1, none⟩ = some (.string Y))
  case atStart => exact ⟨0, by omega, rfl, hid rfl, (Below.refl _ _).alloc (Nat.le_refl _) _, by simp, by simp⟩
  case round =>
    obtain ⟨k, hk, rfl, hI, hb, hx0, hx1⟩ := hrel
    by_cases hlt : k < len
    · have d1 : decide (k < len) = true := decide_eq_true hlt
      have hltI : (k : Int) < (len : Int) := by omega
      obtain ⟨hll, h0 | ⟨blk, off, rfl, hat⟩⟩ := HH.out.below hb
      · omega
      have hkl : k < ls.length := by omega
      obtain ⟨⟨p, q⟩, hpq⟩ : ∃ z, ls[k]? = some z := ⟨_, List.getElem?_eq_getElem hkl⟩
      obtain ⟨hc0, hc1⟩ := hat k _ hpq
      simp only at hc0 hc1
      by_cases hp : p = x
      · rw [hp, HX.out] at hc0
        by_cases hq : q = y
        · rw [hq, HY.out] at hc1
          have HR := hid (show c = true from HC.out.symm.trans <| List.contains_iff_mem.2 (by rw [← hp, ← hq]; exact List.mem_of_getElem? hpq))
          clear hp hq hat hll hpq hI
          go_wp2
          go_region
          go_wp2
          go_ret
          exact found_yes HR.out (bel_drewN hb 1)
        · have hne : ¬ Y.toList = (bs q).toList := fun e => hq (bs_inj (HY.out ▸ e)).symm
          have HN := hid (pair_next hI.out hpq fun e => hq (congrArg Prod.snd e))
          clear hp hq hat hll hpq hI
          go_wp2
          go_region
          go_wp2
          go_roundg (len - (k + 1))
          case measure => omega
          case rel => exact ⟨k + 1, by omega, by go_num, HN, bel_drewN hb 1, hx0, hx1⟩
      · have hne : ¬ X.toList = (bs p).toList := fun e => hp (bs_inj (HX.out ▸ e)).symm
        have HN := hid (pair_next hI.out hpq fun e => hp (congrArg Prod.fst e))
        clear hp hat hll hpq hI
        go_wp2
        go_region
        go_wp2
        go_roundg (len - (k + 1))
        case measure => omega
        case rel => exact ⟨k + 1, by omega, by go_num, HN, bel_drewN hb 1, hx0, hx1⟩
    · have d1 : decide (k < len) = false := decide_eq_false hlt
      have hltI : ¬ (k : Int) < (len : Int) := by omega
      have HR := hid (show c = false by rw [← HC.out, ← hI.out, List.take_of_length_le (by rw [HH.out.1]; omega)])
      clear hI
      go_wp2
      go_ret
      exact found_no HR.out hb
theorem containsT_any (a : Option Addr) (len cap : Nat) (ls : List (List UInt8 × List UInt8)) (x y : List UInt8) (w : World) (h : IsA w a len ls) (hs : len ≤ 9223372036854775807) (hlc : len ≤ cap) (hcm : cap ≤ 9223372036854775807) :
    Calls Try.prog 37 #[.slice a len cap, .agg #[.string (bs x), .string (bs y)]] w fun e w' => e = .returned (.bool (ls.contains (x, y))) ∧ Below w.heap.size w w' := by
  have HI := hid (fun w h => indexT_any a len cap ls x y w h hs hlc hcm)
  have HH := hid h
  clear h
  obtain ⟨X, hX⟩ : ∃ X, bs x = X := ⟨_, rfl⟩
  obtain ⟨Y, hY⟩ : ∃ Y, bs y = Y := ⟨_, rfl⟩
  rw [hX, hY] at HI ⊢
  clear hX hY
  obtain ⟨c, hc⟩ : ∃ c, ls.contains (x, y) = c := ⟨_, rfl⟩
  rw [hc] at HI ⊢
  clear hc
  go_enter Try.func37, Try.ntmps37
  have b0 : Below w.heap.size w (w.alloc (.cells #[.string X, .string Y] 38)) := (Below.refl _ _).alloc (Nat.le_refl _) _
  go_wp2_with fail
  refine (HI.out _ (HH.out.below b0)).mono ?_
  rintro e w1 ⟨n, hn, rfl, b1⟩
  have c1 := b0.trans (b1.mono b0.size)
  go_wp2
  go_ret
  exact ⟨rfl, c1⟩
theorem contains_dec (ls : List (List UInt8 × List UInt8)) (p : List UInt8 × List UInt8) : ls.contains p = decide (p ∈ ls) := by
  cases hc : ls.contains p with
  | true => exact (decide_eq_true (List.contains_iff_mem.1 hc)).symm
  | false =>
    symm
    apply decide_eq_false
    intro h
    rw [List.contains_iff_mem.2 h] at hc
    cases hc
/-- A marker. -/
theorem marker_any (i : Int) (nm : ByteArray) (aa : Option Addr) (an ac : Nat) (w : World) :
    Calls Try.prog 29 #[.agg #[.int .i64 i, .string nm, .slice aa an ac]] w fun e w' => e = .returned (.bool (decide (i < 0))) ∧ Below w.heap.size w w' := by
  have b0 : Below w.heap.size w (w.alloc (.cells #[.int .i64 i, .string nm, .slice aa an ac] 25)) := (Below.refl _ _).alloc (Nat.le_refl _) _
  obtain ⟨d, hd⟩ : ∃ d, decide (i < 0) = d := ⟨_, rfl⟩
  rw [hd]
  go_enter Try.func29, Try.ntmps29
  go_wp2
  go_ret
  exact ⟨rfl, b0⟩
theorem find1_any (i id : Int) (nm : ByteArray) (aa : Option Addr) (an ac : Nat) (p0 : Addr) (w : World) (hp : w.cell? p0 = some (.int .i64 id)) :
    Calls Try.prog 31 #[.agg #[.int .i64 i, .string nm, .slice aa an ac], .pointer (some p0)] w fun e w' => e = .returned (.bool (i == id)) ∧ Below w.heap.size w w' := by
  have b0 : Below w.heap.size w (w.alloc (.cells #[.int .i64 i, .string nm, .slice aa an ac] 25)) := (Below.refl _ _).alloc (Nat.le_refl _) _
  have hp2 := cell_up hp b0
  obtain ⟨d, hd⟩ : ∃ d, (i == id) = d := ⟨_, rfl⟩
  rw [hd]
  go_enter Try.func31, Try.ntmps31
  go_wp2
  go_ret
  exact ⟨rfl, b0⟩
set_option maxHeartbeats 4000000 in
theorem indexF_any (a : Option Addr) (n c : Nat) (rs : List MR) (xs : List Mk.M) (id : Int) (p0 : Addr) (w : World) (h : MarksIn a n c rs xs w) (hp : w.cell? p0 = some (.int .i64 id)) :
    Calls Try.prog 30 #[.slice a n c, .func (.func 31) #[] #[.pointer (some p0)]] w fun e w' => e = .returned (.int .i64 (Mk.findI xs id 0 n)) ∧ Below w.heap.size w w' := by
  have HH := hid h
  have HF := hid fun (i : Int) (nm : ByteArray) (aa : Option Addr) (an ac : Nat) (V : World) (hV : Below w.heap.size w V) => find1_any i id nm aa an ac p0 V (cell_up hp hV)
  have hf := h.few
  obtain ⟨R, hR⟩ : ∃ R, Mk.findI xs id 0 n = R := ⟨_, rfl⟩
  rw [hR]
  have HR := hid hR
  clear h hR hp
  go_enter Try.func30, Try.ntmps30
  go_wp2
  go_loopg [8] n (fun g iv wr => ∃ k : Nat, k + g = n ∧ iv = .int .i64 k ∧ Hid (Mk.findI xs id k g = R) ∧ Below w.heap.size w wr)
  case atStart => exact ⟨0, by omega, rfl, HR, Below.refl _ _⟩
  case round =>
    obtain ⟨k, hk, rfl, hI, hb⟩ := hrel
    by_cases hlt : k < n
    · have d1 : decide (k < n) = true := decide_eq_true hlt
      have hltI : (k : Int) < (n : Int) := by omega
      obtain ⟨blk, off, r, x, rfl, hr, hx, f, c0, c1, c2⟩ := (HH.out.below hb).get hlt
      have eg : gk = (n - (k + 1)) + 1 := by omega
      rw [eg] at hI
      rw [Mk.findI_step hx] at hI
      have HX := hid (HF.out x.id (bs x.name) r.aa r.an r.ac wr hb)
      clear hx f hr
      generalize x.id = z at *
      go_wp2_with fail
      refine HX.out.mono ?_
      rintro e w2 ⟨rfl, bx⟩
      have hb2 := hid (hb.trans (bx.mono hb.size))
      clear HX bx c0 c1 c2
      by_cases hs : z = id
      · have d3 : (z == id) = true := by simp [hs]
        have HR2 := hid (show (k : Int) = R by rw [← hI.out, if_pos hs])
        clear hI hs
        go_wp2
        go_ret
        exact ⟨by rw [← HR2.out]; rfl, hb2.out⟩
      · have d3 : (z == id) = false := by simp [hs]
        have HN := hid (show Mk.findI xs id (k + 1) (n - (k + 1)) = R by rw [← hI.out, if_neg hs])
        clear hI hs
        go_wp2
        go_roundg (n - (k + 1))
        case measure => omega
        case rel => exact ⟨k + 1, by omega, by go_num, HN, hb2.out⟩
    · have d1 : decide (k < n) = false := decide_eq_false hlt
      have hltI : ¬ (k : Int) < (n : Int) := by omega
      have HR2 := hid (show -1 = R by
        have e := hI.out
        rw [show gk = 0 from by omega] at e
        exact e)
      clear hI
      go_wp2
      go_ret
      exact ⟨by rw [← HR2.out]; rfl, hb⟩
theorem pfind_any (a : Option Addr) (n c : Nat) (rs : List MR) (xs : List Mk.M) (id : Int) (w : World) (h : MarksIn a n c rs xs w) :
    Calls Try.prog 17 #[.slice a n c, .int .i64 id] w fun e w' => e = .returned (.int .i64 (findR xs id)) ∧ Below w.heap.size w w' := by
  have b0 : Below w.heap.size w (w.alloc (.cells #[.int .i64 id] 3)) := (Below.refl _ _).alloc (Nat.le_refl _) _
  have hl := h.len
  by_cases hid0 : id < 0
  · have hR : findR xs id = -1 := by unfold findR; rw [if_pos hid0]
    have d2 : decide (id < 0) = true := decide_eq_true hid0
    rw [hR]
    have B0 := hid b0
    clear h hR b0
    go_enter Try.func17, Try.ntmps17
    go_wp2
    go_ret
    exact ⟨rfl, B0.out⟩
  · have hR : findR xs id = Mk.findI xs id 0 n := by unfold findR; rw [if_neg hid0, hl]
    rw [hR]
    have d2 : decide (id < 0) = false := decide_eq_false hid0
    have hc : (w.alloc (.cells #[.int .i64 id] 3)).cell? ⟨w.heap.size, 0, none⟩ = some (.int .i64 id) := by simp
    have HI := hid (indexF_any a n c rs xs id ⟨w.heap.size, 0, none⟩ _ (h.below b0) hc)
    have B0 := hid b0
    clear h hR b0 hc
    go_enter Try.func17, Try.ntmps17
    go_wp2_with fail
    refine HI.out.mono ?_
    rintro e w2 ⟨rfl, bx⟩
    have B2 := hid (B0.out.trans (bx.mono B0.out.size))
    clear bx HI
    go_wp2
    go_ret
    exact ⟨rfl, B2.out⟩
end Go.Proofs.Ytmgbjkekfejnfaa
