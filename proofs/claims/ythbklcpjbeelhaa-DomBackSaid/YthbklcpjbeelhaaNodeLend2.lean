/- Walks: tympanref00.LentNodes makes nodes that are all apart. -/
import Derived.Test.YthbklcpjbeelhaaNodeLend
namespace Go.Proofs.Ythbklcpjbeelhaa
open Go.RowKit Go.Lib
set_option maxRecDepth 100000
set_option linter.unusedVariables false

set_option maxHeartbeats 4000000 in
theorem lentA2_any (a : Option Addr) (n c : Nat) (ats : List (List UInt8 × List UInt8)) (w : World) (h : IsA w a n ats) (hnil : a = none → c = 0) (hn : n ≤ 4000000000) :
    Calls Try.prog 35 #[.slice a n c] w fun e w' => (∃ a' c', e = .returned (.slice a' n c') ∧ IsA w' a' n ats ∧ InS (fun k => w.heap.size ≤ k) a' n ∧ (a' = none → c' = 0) ∧ OwnB w' 67 a' n) ∧ Below w.heap.size w w' := by
  have HA := hid h
  have HN := hid hnil
  clear h hnil
  go_enter Try.func35, Try.ntmps35
  go_wp2_with (at_builtin; refine append_T rfl _ _ rfl w.heap.size _ [] rfl (World.ownsRow_nil _ _ _ _) a n c ats rfl HA.out HN.out (by simp; omega) (Nat.le_refl _) ?_)
  intro v' w' hown hgr
  have hb : Below w.heap.size w w' := (Below.refl _ w).grown hgr (Nat.le_refl _) (fun k e => by simp [Value.ownBlock] at e)
  obtain ⟨a', cap, hv, hI, _, _, hge, hx⟩ := own_isT' hown
  rw [hv] at hown
  have hob := own_blk hown
  rw [HA.out.1] at hob hv hI
  have hR := hid (show (∃ a' c', v' = .slice a' n c' ∧ IsA w' a' n ats ∧ InS (fun k => w.heap.size ≤ k) a' n ∧ (a' = none → c' = 0) ∧ OwnB w' 67 a' n) ∧ Below w.heap.size w w' from ⟨⟨a', cap, hv, hI, .inr hge, hx, hob⟩, hb⟩)
  clear hown hgr hb hv hI hge hx hob
  go_wp2
  go_ret
  obtain ⟨⟨a', c', h1, h2, h3, h4, h6⟩, h5⟩ := hR.out
  exact ⟨⟨a', c', by rw [h1]; first | done | rfl, h2, h3, h4, h6⟩, h5⟩
/-- What LentNodes is known to tell of lists that stand at most d deep. -/
def LentDC (d : Nat) : Prop := ∀ (S : Nat → Prop) (ns : List Dom.N) (a : Option Addr) (n c : Nat) (w : World), IsN S d w a n ns → Dom.sumW d ns ≤ 900000000 →
  Calls Try.prog 11 #[.slice a n c] w fun e w' => (∃ a' c', e = .returned (.slice a' n c') ∧ IsD d w' w.heap.size w'.heap.size a' n ns ∧ (a' = none → c' = 0)) ∧ Below w.heap.size w w'
set_option maxHeartbeats 8000000 in
theorem lentD_zero : LentDC 0 := by
  intro S ns a n c w h hw
  obtain ⟨rfl, rfl⟩ := h
  clear hw
  go_enter Try.func11, Try.ntmps11
  go_wp2
  go_loopg [3, 4] 0 (fun g ov iv wr => iv = .int .i64 0 ∧ ov = .slice none 0 0 ∧ wr = w)
  case atStart => exact ⟨rfl, rfl, rfl⟩
  case round =>
    obtain ⟨rfl, rfl, rfl⟩ := hrel
    go_wp2
    go_ret
    exact ⟨⟨none, 0, rfl, ⟨rfl, rfl⟩, fun _ => rfl⟩, Below.refl _ _⟩
set_option maxHeartbeats 8000000 in
theorem lentD_succ (d : Nat) (IH : LentDC d) : LentDC (d + 1) := by
  intro S ns a n c w h hw
  have HH := hid h
  have HIH := hid IH
  have HW := hid hw
  have HLN := hid h.len
  have hn : n ≤ 900000000 := by have := Dom.sumW_len d ns; have := h.len; omega
  clear h IH hw
  go_enter Try.func11, Try.ntmps11
  go_wp2
  go_loopg [3, 4] n (fun g ov iv wr => ∃ (k : Nat) (v : Value), v = ov ∧ k + g = n ∧ iv = .int .i64 k ∧ Hid (OwnD wr w.heap.size wr.heap.size d v (ns.take k)) ∧ Hid (Below w.heap.size w wr))
  case atStart => exact ⟨0, _, rfl, by omega, rfl, hid (OwnD.nil _ _ _ (Nat.le_refl _)), hid (Below.refl _ _)⟩
  case round =>
    obtain ⟨k, v, rfl, hk, rfl, hO, hB⟩ := hrel
    by_cases hlt : k < n
    · have d1 : decide (k < n) = true := decide_eq_true hlt
      have hltI : (k : Int) < (n : Int) := by omega
      obtain ⟨x, hx⟩ : ∃ x, ns[k]? = some x := ⟨_, List.getElem?_eq_getElem (by have := HLN.out; omega)⟩
      have hwx := Dom.sumW_mem (d := d) (List.mem_of_getElem? hx)
      have hax := Dom.sumA_len x.atts
      obtain ⟨b1, o1, rfl, _, hat⟩ := (HH.out.below hB.out).at (by omega)
      obtain ⟨aa, an, ac, ka, kn, kc, X⟩ := hat k x hx
      have l1 := X.atts.1
      have x0 := X.c0
      have x1 := X.c1
      have x2 := X.c2
      have x3 := X.c3
      have x4 := X.c4
      have x5 := X.c5
      have hWle := HW.out
      have SA := hid fun W (hW : Below wr.heap.size wr W) => lentA2_any aa an ac x.atts W (X.atts.below hW) X.anil (by omega)
      have SK := hid fun W (hW : Below wr.heap.size wr W) => HIH.out S x.kids ka kn kc W (X.kids.below hW) (by omega)
      have hkl := X.kids.len
      have HXN := hid (show ∃ NM TX, bs x.name = NM ∧ bs x.text = TX from ⟨_, _, rfl, rfl⟩)
      obtain ⟨NM, hNM⟩ : ∃ NM, bs x.name = NM := ⟨_, rfl⟩
      obtain ⟨TX, hTX⟩ : ∃ TX, bs x.text = TX := ⟨_, rfl⟩
      obtain ⟨K, hK⟩ : ∃ K, x.kind = K := ⟨_, rfl⟩
      obtain ⟨SP, hSP⟩ : ∃ SP, x.space = SP := ⟨_, rfl⟩
      rw [hK] at x0
      rw [hSP] at x1
      rw [hNM] at x2
      rw [hTX] at x4
      have HV := hid (And.intro hNM (And.intro hTX (And.intro hK hSP)))
      have HTk : Hid (ns.take (k + 1) = ns.take k ++ [x]) := hid (by rw [List.take_add_one, hx]; rfl)
      have hlen : (ns.take k).length = k := by rw [List.length_take, HLN.out]; omega
      have HLk := hid hlen
      clear hat X hx hwx hax l1 hWle hNM hTX hK hSP hlen HXN
      have P1 := hid (BlkW.new wr #[.int .u8 K, .int .u8 SP, .string NM, .slice aa an ac, .string TX, .slice ka kn kc] 32)
      have B1 := hid (show Below wr.heap.size wr (wr.alloc (.cells #[.int .u8 K, .int .u8 SP, .string NM, .slice aa an ac, .string TX, .slice ka kn kc] 32)) from (Below.refl _ wr).alloc (Nat.le_refl _) _)
      go_wp2_with fail
      refine (SA.out _ B1.out).mono ?_
      rintro e w2 ⟨⟨a2, c2, rfl, hA2, hS2, hn2, ho2⟩, b2⟩
      have HO2 := hid ho2
      clear ho2
      have hP2 := P1.out.below b2 P1.out.lt
      have hp5 := hP2.cell 5
      have hf3 := hP2.free 3
      have hp3 := hP2.cell 3
      simp only [List.getElem?_toArray, List.getElem?_cons_zero, List.getElem?_cons_succ] at hp5 hp3
      have B2 := B1.out.trans (b2.mono B1.out.size)
      have B3 := hid (B2.setCell (p := ⟨wr.heap.size, 3, none⟩) (Nat.le_refl _) (.slice a2 an c2))
      have P3 : Hid (BlkW (w2.setCell ⟨wr.heap.size, 3, none⟩ (.slice a2 an c2)) wr.heap.size #[.int .u8 K, .int .u8 SP, .string NM, .slice a2 an c2, .string TX, .slice ka kn kc] 32) := hid (hP2.set_ 3 (.slice a2 an c2))
      have hs1 : (wr.alloc (.cells #[.int .u8 K, .int .u8 SP, .string NM, .slice aa an ac, .string TX, .slice ka kn kc] 32)).heap.size = wr.heap.size + 1 := World.size_alloc _ _
      rw [hs1] at hS2
      have HA2 := hid hA2
      have HS2 := hid (isA_lt hA2 hS2)
      have HN2 := hid hn2
      have H23 := hid (fun k (hk : k ≠ wr.heap.size) => Below.heap_setCell w2 ⟨wr.heap.size, 3, none⟩ (.slice a2 an c2) k hk)
      have HZ3 := hid (show (w2.setCell ⟨wr.heap.size, 3, none⟩ (.slice a2 an c2)).heap.size = w2.heap.size by simp)
      have HZ2 := hid (show wr.heap.size + 1 ≤ w2.heap.size by have := b2.size; omega)
      clear b2 hA2 hS2 hn2 B2 hP2 x0 x1 x2 x3 x4 x5
      go_wp2_with fail
      refine (SK.out _ B3.out).mono ?_
      rintro e w4 ⟨⟨a4, c4, rfl, hK4, hn4⟩, b4⟩
      have hP4 := P3.out.below b4 P3.out.lt
      have hg5 := hP4.free 5
      have hz0 := hP4.cell 0
      have hz1 := hP4.cell 1
      have hz2 := hP4.cell 2
      have hz3 := hP4.cell 3
      have hz4 := hP4.cell 4
      have hz5 := hP4.cell 5
      simp only [List.getElem?_toArray, List.getElem?_cons_zero, List.getElem?_cons_succ] at hz0 hz1 hz2 hz3 hz4 hz5
      have B4 := B3.out.trans (b4.mono B3.out.size)
      have B5 := B4.setCell (p := ⟨wr.heap.size, 5, none⟩) (Nat.le_refl _) (.slice a4 kn c4)
      have P5 : BlkW (w4.setCell ⟨wr.heap.size, 5, none⟩ (.slice a4 kn c4)) wr.heap.size #[.int .u8 K, .int .u8 SP, .string NM, .slice a2 an c2, .string TX, .slice a4 kn c4] 32 := hP4.set_ 5 (.slice a4 kn c4)
      obtain ⟨w5, hw5⟩ : ∃ w5, w4.setCell ⟨wr.heap.size, 5, none⟩ (.slice a4 kn c4) = w5 := ⟨_, rfl⟩
      have h45 : ∀ k, k ≠ wr.heap.size → w5.heap[k]? = w4.heap[k]? := fun k hk => by rw [← hw5]; exact Below.heap_setCell w4 ⟨wr.heap.size, 5, none⟩ (.slice a4 kn c4) k hk
      have hz45 : w5.heap.size = w4.heap.size := by rw [← hw5]; simp
      have hsz4 := b4.size
      rw [HZ3.out] at hK4 hsz4
      rw [hw5] at B5 P5
      have hz2' := HZ2.out
      have fit : FitsD (wr.heap.size + 1) w2.heap.size w4.heap.size d w5 ⟨x.kind, x.space, x.name, a2, an, c2, x.text, a4, kn, c4⟩ x := by
        have ka : ∀ k, wr.heap.size + 1 ≤ k ∧ k < w2.heap.size → w5.heap[k]? = w2.heap[k]? := fun k hk => by
          rw [h45 k (by omega), b4.block k (by rw [HZ3.out]; exact hk.2), H23.out k (by omega)]
        exact ⟨rfl, rfl, rfl, rfl, isA_in HA2.out HS2.out ka, HS2.out, HO2.out.keep HS2.out ka, hK4.keep fun k q1 q2 => h45 k (by omega), HN2.out, hn4⟩
      have hw5s : wr.heap.size ≤ w5.heap.size := B5.size
      have O5 := hO.out.below B5 (Nat.le_refl _)
      have BW := B5.alloc B5.size (.cells #[.int .u8 K, .int .u8 SP, .string NM, .slice a2 an c2, .string TX, .slice a4 kn c4] 32)
      have O6 := hid (O5.below ((Below.refl w5.heap.size w5).alloc (Nat.le_refl _) (.cells #[.int .u8 K, .int .u8 SP, .string NM, .slice a2 an c2, .string TX, .slice a4 kn c4] 32)) hw5s)
      have F6 := hid (fit.keep hz2' (by omega) fun k _ q2 => Below.heap_alloc w5 (.cells #[.int .u8 K, .int .u8 SP, .string NM, .slice a2 an c2, .string TX, .slice a4 kn c4] 32) k (by omega))
      have M1 := hid (show wr.heap.size + 1 ≤ w2.heap.size from hz2')
      have M2 := hid (show w2.heap.size ≤ w4.heap.size from hsz4)
      have M3 := hid (show w4.heap.size ≤ (w5.alloc (.cells #[.int .u8 K, .int .u8 SP, .string NM, .slice a2 an c2, .string TX, .slice a4 kn c4] 32)).heap.size by rw [World.size_alloc]; omega)
      have B6 := hid (hB.out.trans (BW.mono hB.out.size))
      have N6 : Hid (∀ j, j < 6 → (w5.alloc (.cells #[.int .u8 K, .int .u8 SP, .string NM, .slice a2 an c2, .string TX, .slice a4 kn c4] 32)).cell? ((⟨w4.heap.size, 0, none⟩ : Addr).add j) = (nodeRow ⟨x.kind, x.space, x.name, a2, an, c2, x.text, a4, kn, c4⟩)[j]?) := hid (by
        intro j hj
        obtain ⟨v1, v2, v3, v4⟩ := HV.out
        rw [← hz45, addr_add, Nat.zero_add, (BlkW.new w5 _ _).cell j]
        unfold nodeRow
        rw [v1, v2, v3, v4]
        simp)
      have q0 := P5.cell 0
      have q1 := P5.cell 1
      have q2 := P5.cell 2
      have q3 := P5.cell 3
      have q4 := P5.cell 4
      have q5 := P5.cell 5
      simp only [List.getElem?_toArray, List.getElem?_cons_zero, List.getElem?_cons_succ] at q0 q1 q2 q3 q4 q5
      have HW5 := hid hw5
      have HLn := HLk.out
      clear b4 hK4 hn4 B4 B5 P5 h45 hz45 hsz4 hz2' fit O5 BW hw5 hw5s hP4 hp3 hp5 hf3 hs1
      go_wp2_with (at_builtin; rw [HW5.out]; refine append_D rfl _ _ rfl w.heap.size wr.heap.size d _ (ns.take k) rfl O6.out (wr.heap.size + 1) w2.heap.size w4.heap.size (Nat.le_succ _) M1.out M2.out M3.out ⟨w4.heap.size, 0, none⟩ 1 ⟨x.kind, x.space, x.name, a2, an, c2, x.text, a4, kn, c4⟩ x rfl N6.out F6.out (by omega) B6.out.size ?_; intro v' w7 hown hgr; have HO7 := hid hown; have HB7 := hid (B6.out.grown hgr B6.out.size (fun g hg => by (obtain ⟨rs, f', g', t', h1, _⟩ := O6.out; exact own_ge h1 g hg))); clear hown hgr)
      rw [← HTk.out] at HO7
      go_roundg (n - (k + 1))
      case measure => omega
      case rel => exact ⟨k + 1, _, rfl, by omega, by go_num, HO7, HB7⟩
    · have d1 : decide (k < n) = false := decide_eq_false hlt
      have hltI : ¬ (k : Int) < (n : Int) := by omega
      have hO2 := hO.out
      rw [List.take_of_length_le (by have := HLN.out; omega)] at hO2
      obtain ⟨a', cap, hv, hI, hx⟩ := own_isD hO2
      rw [HLN.out] at hv hI
      have hR := hid (show (∃ a' c', v = .slice a' n c' ∧ IsD (d + 1) wr w.heap.size wr.heap.size a' n ns ∧ (a' = none → c' = 0)) ∧ Below w.heap.size w wr from ⟨⟨a', cap, hv, hI, hx⟩, hB.out⟩)
      clear hO2 hv hI hx hO
      go_wp2
      go_ret
      obtain ⟨⟨a', c', h1, h2, h3⟩, h5⟩ := hR.out
      exact ⟨⟨a', c', by rw [h1]; first | done | rfl, h2, h3⟩, h5⟩
theorem lentD_any : ∀ d, LentDC d
  | 0 => lentD_zero
  | d + 1 => lentD_succ d (lentD_any d)
end Go.Proofs.Ythbklcpjbeelhaa
