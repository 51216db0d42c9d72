/- Walks over the program's package marks: names of their own for the marks of a new list. -/
import Derived.Test.YtmgbjkekfejnfaaShelf
import Derived.Test.YtmgbjkekfejnfaaMarkPu
namespace Go.Proofs.Ytmgbjkekfejnfaa
open Go.RowKit Go.Lib
set_option maxRecDepth 100000
set_option linter.unusedVariables false
/-- A text is copied: the same text. -/
theorem tclone (s : ByteArray) (w : World) (hlim : s.size ≤ 281474976710656) :
    Calls Try.prog 34 #[.string s] w fun e w' => e = .returned (.string s) ∧ Below w.heap.size w w' := by
  have H := hid fun W => Try.stringslite_Clone s W hlim
  go_enter Try.func34, Try.ntmps34
  go_wp2_with fail
  refine (H.out _).mono ?_
  rintro e w1 ⟨rfl, b1⟩
  go_wp2
  go_ret
  exact ⟨rfl, b1⟩
/-- No name is too long. -/
def ShortN (xs : List Mk.M) : Prop := ∀ x ∈ xs, x.name.length ≤ 281474976710656
/-- A mark's cells, without room behind its attributes. -/
def cutR (r : MR) : MR := ⟨r.id, r.name, r.aa, r.an, r.an⟩
theorem FitM.cut {w : World} {r : MR} {x : Mk.M} (h : FitM w r x) : FitM w (cutR r) x :=
  ⟨h.id, h.name, h.atts, Nat.le_refl _, h.few, fun e => by have := h.nil e; have := h.cap; show r.an = 0; omega⟩
theorem AttsM.cut {w : World} {rs : List MR} {xs : List Mk.M} (h : AttsM w rs xs) : AttsM w (rs.map cutR) xs := by
  refine ⟨by rw [List.length_map]; exact h.1, fun i r x hr hx => ?_⟩
  rw [List.getElem?_map, Option.map_eq_some_iff] at hr
  obtain ⟨p, hp, rfl⟩ := hr
  exact (h.2 i p x hp hx).cut
/-- How far the list has come. -/
def RnInv (w0 : World) (b off : Nat) (rs : List MR) (k : Nat) (W : World) : Prop := Below w0.heap.size w0 W ∧ ∃ cs, BlkW W b cs 25 ∧ ∀ (i : Nat) r, rs[i]? = some r →
  cs[off + i * 3]? = some (.int .i64 r.id) ∧ cs[off + i * 3 + 1]? = some (.string (bs r.name)) ∧ cs[off + i * 3 + 2]? = some (.slice r.aa r.an (if i < k then r.an else r.ac))
theorem rn_step {w0 W W6 : World} {b off k n H : Nat} {rs : List MR} {r : MR} (h : RnInv w0 b off rs k W) (hr : rs[k]? = some r) (hbb : w0.heap.size ≤ b) (h6 : Below W.heap.size W W6) :
    RnInv w0 b off rs (k + 1) ((W6.setCell ⟨b, off + k * 3 + 1, none⟩ (.string (bs r.name))).setCell ⟨b, off + k * 3 + 2, none⟩ (.slice r.aa r.an r.an)) := by
  obtain ⟨hb, cs, hB, hat⟩ := h
  refine ⟨((hb.trans (h6.mono hb.size)).setCell (p := ⟨b, off + k * 3 + 1, none⟩) hbb _).setCell (p := ⟨b, off + k * 3 + 2, none⟩) hbb _, _, ((hB.below h6 hB.lt).set_ (off + k * 3 + 1) _).set_ (off + k * 3 + 2) _, fun i s hs => ?_⟩
  obtain ⟨h0, h1, h2⟩ := hat i s hs
  have z0 := (Array.getElem?_eq_some_iff.1 h0).1
  have z1 := (Array.getElem?_eq_some_iff.1 h1).1
  have z2 := (Array.getElem?_eq_some_iff.1 h2).1
  by_cases hi : i = k
  · subst hi
    rw [hr] at hs
    cases hs
    refine ⟨?_, ?_, ?_⟩
    · rw [Array.getElem?_setIfInBounds_ne (by omega), Array.getElem?_setIfInBounds_ne (by omega)]; exact h0
    · rw [Array.getElem?_setIfInBounds_ne (by omega), Array.getElem?_setIfInBounds_self_of_lt z1]
    · rw [Array.getElem?_setIfInBounds_self_of_lt (by simpa using z2), if_pos (by omega)]
  · refine ⟨?_, ?_, ?_⟩
    · rw [Array.getElem?_setIfInBounds_ne (by omega), Array.getElem?_setIfInBounds_ne (by omega)]; exact h0
    · rw [Array.getElem?_setIfInBounds_ne (by omega), Array.getElem?_setIfInBounds_ne (by omega)]; exact h1
    · rw [Array.getElem?_setIfInBounds_ne (by omega), Array.getElem?_setIfInBounds_ne (by omega), h2]
      by_cases hk : i < k
      · rw [if_pos hk, if_pos (by omega)]
      · rw [if_neg hk, if_neg (by omega)]
set_option maxHeartbeats 8000000 in
theorem prenew_any (w0 w : World) (a : Option Addr) (n c : Nat) (rs : List MR) (xs : List Mk.M) (hR : RowM w a n rs) (hA : AttsM w0 rs xs) (hb : Below w0.heap.size w0 w) (nb : NewB w w0.heap.size 25 a n)
    (hnc : n ≤ c) (hc : c ≤ 9223372036854775807) (hn : n ≤ 4294967296) (hs : ShortN xs) :
    Calls Try.prog 23 #[.slice a n c] w fun e w' => e = .returned (.slice a n c) ∧ MarksIn a n c (rs.map cutR) xs w' ∧ NewB w' w0.heap.size 25 a n ∧ Below w0.heap.size w0 w' := by
  have hrl := hR.1
  by_cases h0 : n = 0
  · subst h0
    have HE := hid (show MarksIn a 0 c (rs.map cutR) xs w ∧ NewB w w0.heap.size 25 a 0 ∧ Below w0.heap.size w0 w from ⟨⟨⟨by rw [List.length_map]; exact hrl, .inl rfl⟩, (hA.below hb).cut, by omega, hnc, hc⟩, .inl rfl, hb⟩)
    clear hR hA hb nb hs
    go_enter Try.func23, Try.ntmps23
    go_wp2
    go_loopg [7] 0 (fun g iv wr => g = 0 ∧ iv = .int .i64 0 ∧ w = wr)
    case atStart => exact ⟨rfl, rfl, rfl⟩
    case round =>
      obtain ⟨_, rfl, rfl⟩ := hrel
      go_wp2
      go_ret
      exact ⟨rfl, HE.out⟩
  · obtain ⟨b, off, cs, rfl, hB, hbb⟩ := nb.resolve_left h0
    have HI := hid (show RnInv w0 b off rs 0 w from ⟨hb, cs, hB, fun i r hr => by
      obtain ⟨c0, c1, c2⟩ := hR.at_ hr
      rw [hB.cell] at c0 c1 c2
      exact ⟨c0, c1, by rw [if_neg (by omega)]; exact c2⟩⟩)
    have HA := hid hA
    have HS := hid hs
    clear hR hA hb nb hs hB
    go_enter Try.func23, Try.ntmps23
    go_wp2
    go_loopg [7] n (fun g iv wr => ∃ k : Nat, k + g = n ∧ iv = .int .i64 k ∧ Hid (RnInv w0 b off rs k wr))
    case atStart => exact ⟨0, by omega, rfl, HI⟩
    case round =>
      clear HI
      obtain ⟨k, hk, rfl, hI⟩ := hrel
      by_cases hlt : k < n
      · have d1 : decide (k < n) = true := decide_eq_true hlt
        have hltI : (k : Int) < (n : Int) := by omega
        obtain ⟨r, hr⟩ : ∃ r, rs[k]? = some r := ⟨_, List.getElem?_eq_getElem (by omega)⟩
        obtain ⟨x, hx⟩ : ∃ x, xs[k]? = some x := ⟨_, List.getElem?_eq_getElem (by have := HA.out.1; omega)⟩
        have f := HA.out.2 k r x hr hx
        have hsz : (bs r.name).size ≤ 281474976710656 := by rw [f.name]; exact HS.out x (List.mem_of_getElem? hx)
        have hcap := f.cap
        have hcap2 := f.cap2
        have hnil := hid f.nil
        obtain ⟨hb, cs', hB, hat⟩ := hI.out
        obtain ⟨c0, c1, c2⟩ := hat k r hr
        rw [if_neg (by omega)] at c2
        rw [← hB.cell] at c0 c1 c2
        have HST := hid fun W6 (h6 : Below wr.heap.size wr W6) => rn_step (n := n) (H := 0) hI.out hr hbb h6
        have HBK := hid hB
        have hlb := hB.lt
        clear hat hB hb hI f hr hx
        generalize bs r.name = nm at *
        obtain ⟨ri, hri⟩ : ∃ z, r.id = z := ⟨_, rfl⟩
        obtain ⟨ra, hra⟩ : ∃ z, r.aa = z := ⟨_, rfl⟩
        obtain ⟨rn, hrn⟩ : ∃ z, r.an = z := ⟨_, rfl⟩
        obtain ⟨rc, hrc⟩ : ∃ z, r.ac = z := ⟨_, rfl⟩
        rw [hri] at c0
        rw [hra, hrn, hrc] at c2
        rw [hrn, hrc] at hcap
        rw [hrc] at hcap2
        rw [hra, hrc] at hnil
        rw [hra, hrn] at HST
        clear hri hra hrn hrc
        have b5 := (Below.refl wr.heap.size wr).alloc (Nat.le_refl _) (.cells #[.int .i64 ri, .string nm, .slice ra rn rc] 25)
        have k5 := BlkW.new wr #[.int .i64 ri, .string nm, .slice ra rn rc] 25
        go_wp2_with fail
        refine (tclone nm _ hsz).mono ?_
        rintro e W6 ⟨rfl, b6⟩
        have b56 := b5.trans (b6.mono b5.size)
        have hB6 := HBK.out.below b56 hlb
        have k6 := k5.below b6 k5.lt
        have hbH : b ≠ wr.heap.size := by omega
        obtain ⟨H, hH⟩ : ∃ H, wr.heap.size = H := ⟨_, rfl⟩
        rw [hH] at k6 hbH ⊢
        have HRN := hid (HST.out W6 b56)
        have f1 := cell_up c1 b56
        have g1 := hB6.free (off + k * 3 + 1)
        have k7 := k6.far ⟨b, off + k * 3 + 1, none⟩ (.string nm) hbH
        have hB7 := hB6.set_ (off + k * 3 + 1) (.string nm)
        have e2 := k7.cell 2
        have f2 : (W6.setCell ⟨b, off + k * 3 + 1, none⟩ (.string nm)).cell? ⟨b, off + k * 3 + 2, none⟩ = some (.slice ra rn rc) := by
          rw [hB7.cell, Array.getElem?_setIfInBounds_ne (by omega), ← hB6.cell]
          exact cell_up c2 b56
        have g2 := hB7.free (off + k * 3 + 2)
        have e1 := k6.cell 1
        simp only [List.getElem?_toArray, List.getElem?_cons_zero, List.getElem?_cons_succ] at e1 e2
        have h01 : (rn : Int) ≤ (rc : Int) := by omega
        have h02 : (0 : Int) ≤ (rn : Int) := by omega
        clear c0 c1 c2 b5 k5 b6 b56 hB6 k6 k7 hB7 hH HBK HST
        cases ra with
        | none =>
          obtain rfl : rc = 0 := hnil.out rfl
          obtain rfl : rn = 0 := by omega
          go_wp2_with fail
          go_roundg (n - (k + 1))
          case measure => omega
          case rel => exact ⟨k + 1, by omega, by go_num, HRN⟩
        | some ra =>
          go_wp2_with fail
          go_roundg (n - (k + 1))
          case measure => omega
          case rel => exact ⟨k + 1, by omega, by go_num, HRN⟩
      · have d1 : decide (k < n) = false := decide_eq_false hlt
        have hltI : ¬ (k : Int) < (n : Int) := by omega
        obtain rfl : k = n := by omega
        obtain ⟨hb, cs', hB, hat⟩ := hI.out
        have HE := hid (show MarksIn (some ⟨b, off, none⟩) k c (rs.map cutR) xs wr ∧ NewB wr w0.heap.size 25 (some ⟨b, off, none⟩) k ∧ Below w0.heap.size w0 wr from by
          refine ⟨⟨⟨by rw [List.length_map]; exact hrl, .inr ⟨b, off, rfl, fun i r hr => ?_⟩⟩, (HA.out.below hb).cut, hn, hnc, hc⟩, .inr ⟨b, off, cs', rfl, hB, hbb⟩, hb⟩
          rw [List.getElem?_map, Option.map_eq_some_iff] at hr
          obtain ⟨p, hp, rfl⟩ := hr
          obtain ⟨c0, c1, c2⟩ := hat i p hp
          rw [if_pos (by have := (List.getElem?_eq_some_iff.1 hp).1; omega)] at c2
          exact ⟨(hB.cell _).trans c0, (hB.cell _).trans c1, (hB.cell _).trans c2⟩)
        clear hI hb hB hat
        go_wp2
        go_ret
        exact ⟨rfl, HE.out⟩
end Go.Proofs.Ytmgbjkekfejnfaa
