/- Walks over the reference of layer 10: Move. Written by tools/gen_refmove.py. -/
import Derived.Test.YthbklcpjbeelhaaTreeGrow
import Derived.Deep.LoopGhost
namespace Go.Proofs.Ythbklcpjbeelhaa
open Go.RowKit Go.Lib
set_option maxRecDepth 100000
set_option linter.unusedVariables false

open Classical in
set_option maxHeartbeats 4000000 in
theorem rmove_n1 (w : World) (base R : Nat) (S : Nat → Prop) (t : Dom.T) (a b : Int) (h : TreeX w base R S t) (hG : Dom.Good t) (hf : t.length ≤ 1000000) (h1 : ¬ Dom.there t a) :
    Calls Try.prog 22 #[.pointer (some ⟨R, 0, none⟩), .int .i64 a, .int .i64 b] w fun e w' => e = .returned (.bool false) ∧ w' = w := by
  obtain ⟨v, rs, h⟩ := h
  obtain ⟨g, cap, rfl, hnc, hR⟩ := h.read hG.some hf
  have HA := there_any w R g cap t a hR
  have HB := rholds_any w R g cap t b hR
  rw [decide_eq_false h1] at HA
  obtain ⟨B, hB⟩ : ∃ B, decide (Dom.holds t b) = B := ⟨_, rfl⟩
  rw [hB] at HB
  clear hB
  have HA := hid HA
  have HB := hid HB
  clear hR h hG h1
  go_enter Try.func22, Try.ntmps22
  go_wp2_with fail
  refine (HA.out).mono ?_
  rintro e w1 ⟨rfl, rfl⟩
  go_wp2_with fail
  refine (HB.out).mono ?_
  rintro e w1 ⟨rfl, rfl⟩
  go_wp2
  go_ret
  exact ⟨rfl, rfl⟩
open Classical in
set_option maxHeartbeats 4000000 in
theorem rmove_n2 (w : World) (base R : Nat) (S : Nat → Prop) (t : Dom.T) (a b : Int) (h : TreeX w base R S t) (hG : Dom.Good t) (hf : t.length ≤ 1000000) (h1 : Dom.there t a) (h2 : ¬ Dom.holds t b) :
    Calls Try.prog 22 #[.pointer (some ⟨R, 0, none⟩), .int .i64 a, .int .i64 b] w fun e w' => e = .returned (.bool false) ∧ w' = w := by
  obtain ⟨v, rs, h⟩ := h
  obtain ⟨g, cap, rfl, hnc, hR⟩ := h.read hG.some hf
  have HA := there_any w R g cap t a hR
  have HB := rholds_any w R g cap t b hR
  rw [decide_eq_true h1] at HA
  rw [decide_eq_false h2] at HB
  have HA := hid HA
  have HB := hid HB
  clear hR h hG h1 h2
  go_enter Try.func22, Try.ntmps22
  go_wp2_with fail
  refine (HA.out).mono ?_
  rintro e w1 ⟨rfl, rfl⟩
  go_wp2_with fail
  refine (HB.out).mono ?_
  rintro e w1 ⟨rfl, rfl⟩
  go_wp2
  go_ret
  exact ⟨rfl, rfl⟩
open Classical in
set_option maxHeartbeats 4000000 in
theorem rmove_n3 (w : World) (base R : Nat) (S : Nat → Prop) (t : Dom.T) (a b : Int) (h : TreeX w base R S t) (hG : Dom.Good t) (hf : t.length ≤ 1000000) (h1 : Dom.there t a) (h2 : Dom.holds t b) (h3 : Dom.kidsAt t a.toNat = []) :
    Calls Try.prog 22 #[.pointer (some ⟨R, 0, none⟩), .int .i64 a, .int .i64 b] w fun e w' => e = .returned (.bool false) ∧ w' = w := by
  obtain ⟨v, rs, h⟩ := h
  obtain ⟨g, cap, rfl, hnc, hR⟩ := h.read hG.some hf
  have HA := there_any w R g cap t a hR
  have HB := rholds_any w R g cap t b hR
  have a1 := h1.1
  have a2 := h1.2
  obtain ⟨aa, an, ac, ka, kn, kc, X⟩ := hR.at_ a.toNat _ (node_get (by omega))
  have x7 := X.c7
  have hZ := X.kids
  change IsZ w ka kn (Dom.kidsAt t a.toNat) at hZ
  have hkn := hZ.1
  have k1 := hR.top
  obtain ⟨n, hn⟩ : ∃ n, List.length t = n := ⟨_, rfl⟩
  rw [decide_eq_true h1] at HA
  rw [decide_eq_true h2] at HB
  have HA := hid HA
  have HB := hid HB
  rw [hn] at k1 hnc a2
  have hlt : a.toNat < n := by omega
  rw [h3] at hkn
  obtain rfl : kn = 0 := hkn.symm
  clear X hR h hG h1 h2 h3 hn hZ
  go_enter Try.func22, Try.ntmps22
  go_wp2_with fail
  refine (HA.out).mono ?_
  rintro e w1 ⟨rfl, rfl⟩
  go_wp2_with fail
  refine (HB.out).mono ?_
  rintro e w1 ⟨rfl, rfl⟩
  go_wp2
  go_ret
  exact ⟨rfl, rfl⟩
open Classical in
set_option maxHeartbeats 4000000 in
theorem rmove_n4 (w : World) (base R : Nat) (S : Nat → Prop) (t : Dom.T) (a b : Int) (h : TreeX w base R S t) (hG : Dom.Good t) (hf : t.length ≤ 1000000) (h1 : Dom.there t a) (h2 : Dom.holds t b) (h3 : Dom.kidsAt t a.toNat ≠ []) (h4 : Dom.Up t b.toNat a.toNat) :
    Calls Try.prog 22 #[.pointer (some ⟨R, 0, none⟩), .int .i64 a, .int .i64 b] w fun e w' => e = .returned (.bool false) ∧ w' = w := by
  obtain ⟨v, rs, h⟩ := h
  obtain ⟨g, cap, rfl, hnc, hR⟩ := h.read hG.some hf
  have HA := there_any w R g cap t a hR
  have HB := rholds_any w R g cap t b hR
  have a1 := h1.1
  have a2 := h1.2
  obtain ⟨aa, an, ac, ka, kn, kc, X⟩ := hR.at_ a.toNat _ (node_get (by omega))
  have x7 := X.c7
  have hZ := X.kids
  change IsZ w ka kn (Dom.kidsAt t a.toNat) at hZ
  have hkn := hZ.1
  have k1 := hR.top
  obtain ⟨n, hn⟩ : ∃ n, List.length t = n := ⟨_, rfl⟩
  rw [decide_eq_true h1] at HA
  rw [decide_eq_true h2] at HB
  have HA := hid HA
  have HB := hid HB
  have b1 := h2.1.1
  have b2 := h2.1.2
  have HC := rwithin_any w R g cap t b.toNat a.toNat hR hG (by omega) (by omega)
  rw [show ((b.toNat : Nat) : Int) = b by omega, show ((a.toNat : Nat) : Int) = a by omega, decide_eq_true h4] at HC
  have HC := hid HC
  rw [hn] at k1 hnc a2
  have hlt : a.toNat < n := by omega
  have hk0 : ¬ kn = 0 := fun e => h3 (List.length_eq_zero_iff.1 (by omega))
  have hkI : ((kn : Int) == 0) = false := by simp; exact hk0
  clear X hR h hG h1 h2 h3 hn hZ hkn
  go_enter Try.func22, Try.ntmps22
  go_wp2_with fail
  refine (HA.out).mono ?_
  rintro e w1 ⟨rfl, rfl⟩
  go_wp2_with fail
  refine (HB.out).mono ?_
  rintro e w1 ⟨rfl, rfl⟩
  go_wp2_with fail
  refine (HC.out).mono ?_
  rintro e w1 ⟨rfl, rfl⟩
  go_wp2
  go_ret
  exact ⟨rfl, rfl⟩
open Classical in
set_option maxHeartbeats 16000000 in
theorem rmove_yes (w : World) (base R : Nat) (S : Nat → Prop) (t : Dom.T) (a b : Nat) (h : TreeX w base R S t) (hG : Dom.Good t) (hf : t.length ≤ 1000000) (hbase : base ≤ w.heap.size)
    (h1 : Dom.there t a) (h2 : Dom.holds t b) (h3 : Dom.kidsAt t a ≠ []) (h4 : ¬ Dom.Up t b a) :
    Calls Try.prog 22 #[.pointer (some ⟨R, 0, none⟩), .int .i64 a, .int .i64 b] w fun e w' => e = .returned (.bool true) ∧ Turned w w' base R S (Dom.moveT t a b).1 := by
  have hne : b ≠ a := fun e => h4 (by rw [e]; exact .refl _)
  have hmov : (Dom.moveT t a b).1 = Dom.upd (parsT b (Dom.upd t a fun x => { x with kids := [] }) (Dom.kidsAt t a)) b fun x => { x with kids := Dom.kidsAt t b ++ Dom.kidsAt t a } := by
    unfold Dom.moveT
    rw [if_neg (by
      rintro (g | g | g | g)
      · exact g h1
      · exact g h2
      · exact h3 g
      · exact h4 g)]
    have a2 := h1.2
    have b2 := h2.1.2
    have hb : b < (parsT (b : Int) (Dom.upd t a fun x => { x with kids := [] }) (Dom.kidsAt t a)).length := by rw [parsT_len, Dom.upd_len]; omega
    have hk : (Dom.nodeAt (parsT (b : Int) (Dom.upd t a fun x => { x with kids := [] }) (Dom.kidsAt t a)) b).kids = Dom.kidsAt t b := by
      have := parsT_kids b (Dom.kidsAt t a) (Dom.upd t a fun x => { x with kids := [] }) (fun k hk => by rw [Dom.upd_len]; exact (hG.kid a k hk).1) b
      unfold Dom.kidsAt at this ⊢
      rw [this, Dom.upd_at _ _ _ (by omega), if_neg hne]
    show Dom.upd (parsT (b : Int) (Dom.upd t a fun x => { x with kids := [] }) (Dom.kidsAt t a)) b (fun x => { x with kids := x.kids ++ Dom.kidsAt t a }) = _
    rw [upd_set (node_get hb), upd_set (node_get hb), hk]
  rw [hmov]
  clear hmov
  have a2 := h1.2
  have b2 := h2.1.2
  have hat : a < t.length := by omega
  have hbt : b < t.length := by omega
  obtain ⟨v, rs, h⟩ := h
  obtain ⟨g, cap, rfl, hnc, hR⟩ := h.read hG.some hf
  have HA := there_any w R g cap t a hR
  have HB := rholds_any w R g cap t b hR
  have HC := rwithin_any w R g cap t b a hR hG hbt hat
  rw [decide_eq_true h1] at HA
  rw [decide_eq_true h2] at HB
  rw [decide_eq_false h4] at HC
  have HA := hid HA
  have HB := hid HB
  have HC := hid HC
  have k1 := hR.top
  obtain ⟨r, hr⟩ : ∃ r, rs[a]? = some r := ⟨_, List.getElem?_eq_getElem (by rw [h.len]; exact hat)⟩
  have F := h.fits a r _ hr (node_get hat)
  have hx7 := h.own.cells (g := g) rfl (a * 8 + 7) r.kv (by rw [rowsT_get hr 7 (by decide)]; rfl)
  rw [addr_add, Nat.zero_add] at hx7
  have OL := F.kids
  change w.ownsRow base 3 1 r.kv (Dom.kidsAt t a).length (zL (Dom.kidsAt t a)) at OL
  have hmem : ∀ x ∈ Dom.kidsAt t a, x < t.length := fun x hx => (hG.kid a x hx).1
  have hfa := good_few hG a
  have hfb := good_few hG b
  obtain ⟨u, hu⟩ : ∃ u, (Dom.upd t a fun x => { x with kids := [] }) = u := ⟨_, rfl⟩
  have HKB : Hid (∀ l, (∀ x ∈ l, x < t.length) → Dom.kidsAt (parsT b u l) b = Dom.kidsAt t b) := hid (fun l hl => by
    rw [parsT_kids b l u (fun k hk => by rw [← hu, Dom.upd_len]; exact hl k hk), ← hu]
    unfold Dom.kidsAt
    rw [Dom.upd_at _ _ _ hat, if_neg hne])
  have HUL := hid (show u.length = t.length by rw [← hu, Dom.upd_len])
  obtain ⟨L, hL⟩ : ∃ L, Dom.kidsAt t a = L := ⟨_, rfl⟩
  obtain ⟨LB, hLB⟩ : ∃ LB, Dom.kidsAt t b = LB := ⟨_, rfl⟩
  rw [hL] at OL h3 hmem hfa
  rw [hLB] at HKB hfb
  rw [hu, hL, hLB]
  obtain ⟨C, hC⟩ : ∃ C, LB ++ L = C := ⟨_, rfl⟩
  rw [hC]
  have HC2 := hid hC
  have HCL := hid (show C.length ≤ 8589934592 by rw [← hC, List.length_append]; omega)
  clear hC
  obtain ⟨q, kc, hkv, hkle⟩ := own_addr OL (fun e => h3 (List.length_eq_zero_iff.1 e))
  rw [hkv] at OL hx7
  obtain ⟨m, hm⟩ : ∃ m, L.length = m := ⟨_, rfl⟩
  have hm0 : ¬ m = 0 := fun e => h3 (List.length_eq_zero_iff.1 (by omega))
  have hmI : ((m : Int) == 0) = false := by simp; exact hm0
  obtain ⟨cs8, hG8⟩ := own_cells h.own (g := g) rfl
  have f7 := hG8.free (a * 8 + 7)
  obtain ⟨rs2, h2'⟩ := h.kids (g := g) rfl hat (.slice none 0 0) [] (World.ownsRow_nil _ _ _ _) (fun b hb => by cases hb)
  rw [hu] at h2'
  obtain ⟨S2, hS2⟩ : ∃ S2 : Nat → Prop, (fun k => S k ∨ (Value.slice none 0 0).ownBlock = some k) = S2 := ⟨_, rfl⟩
  rw [hS2] at h2'
  have hT2 : Turn S S2 w (w.setCell ⟨g, a * 8 + 7, none⟩ (.slice none 0 0)) := ((Turn.refl S w).wide (S2 := S2) (by rw [← hS2]; exact fun k hk => hk.elim .inl fun e => by cases e)).set _ _ (.inl (h.vS g rfl))
  have hbq : ∃ cs, BlkW w q cs 3 := own_cells OL (g := q) rfl
  obtain ⟨csq, hbq⟩ := hbq
  have hOL2 : (w.setCell ⟨g, a * 8 + 7, none⟩ (.slice none 0 0)).ownsRow base 3 1 (.slice (some ⟨q, 0, none⟩) L.length kc) L.length (zL L) := own_keep OL fun g' hg' => by
    obtain rfl : q = g' := Option.some.inj hg'
    exact Below.heap_setCell _ _ _ _ (blk_ne hbq hG8 (fun e => node_ne_int e.symm))
  have H0 := hid (show ∃ rs', TreeO (w.setCell ⟨g, a * 8 + 7, none⟩ (.slice none 0 0)) base R S2 (.slice (some ⟨g, 0, none⟩) t.length cap) rs' (parsT b u (L.take 0)) from ⟨rs2, h2'⟩)
  have H1 := hid hOL2
  have H2 := hid hT2
  obtain ⟨n, hn⟩ : ∃ n, List.length t = n := ⟨_, rfl⟩
  rw [hm] at hx7 hfa H1
  rw [hn] at k1 hnc H0 hfa hfb hmem
  rw [hn] at HUL HKB
  have hf2 : n ≤ 1000000 := by omega
  have han : a < n := by omega
  have hbn : b < n := by omega
  have ha3 : (a : Int) < (n : Int) := by omega
  have hb3 : (b : Int) < (n : Int) := by omega
  have z1 : ((a : Int)).toNat = a := by omega
  have z2 : ((b : Int)).toNat = b := by omega
  have HM := hid hm
  have HMEM := hid hmem
  have HKBh := HKB
  clear h2' hOL2 hT2 hbq OL hkv hR h hG hu hL hLB F hr hG8 hS2 h1 h2 h3 h4 hn hm hmem hkle
  go_enter Try.func22, Try.ntmps22
  go_wp2_with fail
  refine (HA.out).mono ?_
  rintro e w1 ⟨rfl, rfl⟩
  go_wp2_with fail
  refine (HB.out).mono ?_
  rintro e w1 ⟨rfl, rfl⟩
  go_wp2_with fail
  refine (HC.out).mono ?_
  rintro e w1 ⟨rfl, rfl⟩
  go_wp2
  go_loopg [11] m (fun gg iv wr => ∃ j : Nat, j + gg = m ∧ iv = .int .i64 j ∧ Hid (∃ rs', TreeO wr base R S2 (.slice (some ⟨g, 0, none⟩) n cap) rs' (parsT b u (L.take j))) ∧ Hid (wr.ownsRow base 3 1 (.slice (some ⟨q, 0, none⟩) m kc) m (zL L)) ∧ Hid (Turn S S2 w1 wr))
  case atStart => exact ⟨0, by omega, rfl, H0, H1, H2⟩
  case round =>
    obtain ⟨j, hj, rfl, hT, hO, hTu⟩ := hrel
    clear H0 H1 H2
    obtain ⟨rs', hT⟩ := hT.out
    have hlenj : (parsT b u (L.take j)).length = n := by rw [parsT_len]; exact HUL.out
    by_cases hlt : j < m
    · have e1 : decide (j < m) = true := decide_eq_true hlt
      have hltI : (j : Int) < (m : Int) := by omega
      obtain ⟨x, hx⟩ : ∃ x, L[j]? = some x := ⟨_, List.getElem?_eq_getElem (by rw [HM.out]; exact hlt)⟩
      have hxn : x < n := HMEM.out x (List.mem_of_getElem? hx)
      have c1 : wr.cell? ⟨R, 0, none⟩ = some (.slice (some ⟨g, 0, none⟩) n cap) := hT.top.cell 0
      have c2 : wr.cell? ⟨q, j, none⟩ = some (.int .i64 (x : Nat)) := by
        have := hO.out.cells (g := q) rfl j (.int .i64 (x : Nat)) (by rw [zL_get, hx]; rfl)
        rwa [addr_add, Nat.zero_add] at this
      obtain ⟨r, hr⟩ : ∃ r, rs'[x]? = some r := ⟨_, List.getElem?_eq_getElem (by rw [hT.len, hlenj]; exact hxn)⟩
      have c3 := hT.own.cells (g := g) rfl (x * 8 + 6) (.int .i64 r.par) (by rw [rowsT_get hr 6 (by decide)]; rfl)
      rw [addr_add, Nat.zero_add] at c3
      obtain ⟨cs8, hG8⟩ := own_cells hT.own (g := g) rfl
      have c4 := hG8.free (x * 8 + 6)
      obtain ⟨rs3, h3⟩ := hT.drew.par (g := g) rfl (i := x) (by rw [hlenj]; exact hxn) (b : Int)
      rw [← parsT_snoc, show L.take j ++ [x] = L.take (j + 1) by rw [List.take_add_one, hx]; rfl] at h3
      have HT3 := hid (show ∃ rs', TreeO (wr.drew.setCell ⟨g, x * 8 + 6, none⟩ (.int .i64 (b : Nat))) base R S2 (.slice (some ⟨g, 0, none⟩) n cap) rs' (parsT b u (L.take (j + 1))) from ⟨rs3, h3⟩)
      have HO3 : Hid ((wr.drew.setCell ⟨g, x * 8 + 6, none⟩ (.int .i64 (b : Nat))).ownsRow base 3 1 (.slice (some ⟨q, 0, none⟩) m kc) m (zL L)) := hid (own_keep hO.out fun g' hg' => by
        obtain rfl : q = g' := Option.some.inj hg'
        obtain ⟨csq, hbq⟩ := own_cells hO.out (g := q) rfl
        exact Below.heap_setCell wr.drew _ _ _ (blk_ne hbq hG8 (fun e => node_ne_int e.symm)))
      have HTu3 := hid ((hTu.out.drew).set ⟨g, x * 8 + 6, none⟩ (.int .i64 (b : Nat)) (((hTu.out.sub g (hT.vS g rfl)))))
      have x1 : (0 : Int) ≤ (x : Int) := by omega
      have x2 : (x : Int) < (n : Int) := by omega
      have x3 : ((x : Int)).toNat = x := by omega
      have j1 : (0 : Int) ≤ (j : Int) := by omega
      have j3 : ((j : Int)).toNat = j := by omega
      clear hT hO hTu hG8 h3 hr hx
      go_wp2
      go_region
      all_goals go_wp2
      all_goals go_roundg (m - (j + 1))
      case measure => omega
      case rel => exact ⟨j + 1, by omega, by go_num, HT3, HO3, HTu3⟩
    · have e1 : decide (j < m) = false := decide_eq_false hlt
      have hltI : ¬ (j : Int) < (m : Int) := by omega
      obtain rfl : j = m := by omega
      rw [List.take_of_length_le (by rw [HM.out]; omega)] at hT hlenj
      have hbl : b < (parsT b u L).length := by rw [hlenj]; exact hbn
      have c1 : wr.cell? ⟨R, 0, none⟩ = some (.slice (some ⟨g, 0, none⟩) n cap) := hT.top.cell 0
      obtain ⟨r, hr⟩ : ∃ r, rs'[b]? = some r := ⟨_, List.getElem?_eq_getElem (by rw [hT.len, hlenj]; exact hbn)⟩
      have F := hT.fits b r _ hr (node_get hbl)
      have OB := F.kids
      change wr.ownsRow base 3 1 r.kv (Dom.kidsAt (parsT b u L) b).length (zL (Dom.kidsAt (parsT b u L) b)) at OB
      rw [HKBh.out L (by intro x hx; exact HMEM.out x hx)] at OB
      have c3 := hT.own.cells (g := g) rfl (b * 8 + 7) r.kv (by rw [rowsT_get hr 7 (by decide)]; rfl)
      rw [addr_add, Nat.zero_add] at c3
      obtain ⟨cs8, hG8⟩ := own_cells hT.own (g := g) rfl
      have c4 := hG8.free (b * 8 + 7)
      have hbw : base ≤ wr.heap.size := by have := hTu.out.size; omega
      have HGR := hid fun (w' : World) kv l own' gr loc => hT.drew.grow (w' := w') (g := g) rfl hr (node_get hbl) hbw kv l own' gr loc
      obtain ⟨kb, kbc, hkb, _⟩ := own_isZ OB
      obtain ⟨lb, hlb⟩ : ∃ lb, LB.length = lb := ⟨_, rfl⟩
      rw [hkb] at OB c3
      rw [hkb, hlb] at HGR
      rw [hlb] at c3
      have HOB := hid (show wr.ownsRow base 3 1 (.slice kb lb kbc) LB.length (zL LB) by rw [← hlb]; exact OB)
      have hZL := own_isZ (show wr.ownsRow base 3 1 (.slice (some ⟨q, 0, none⟩) j kc) L.length (zL L) by rw [HM.out]; exact hO.out)
      have HZL : Hid (IsZ wr.drew (some ⟨q, 0, none⟩) j L) := hid (by
        obtain ⟨a', c', e, hI, _⟩ := hZL
        cases e
        rw [HM.out] at hI
        exact hI)
      have HTP := hid hT.top
      have HG8 := hid hG8
      have HTu := hid hTu.out.drew
      clear hT hO hTu hG8 hr F OB hkb hlb hZL
      go_wp2
      go_region_law (refine step_Z rfl _ _ rfl base _ LB rfl HOB.out ⟨q, 0, none⟩ j kc L C HC2.out rfl HZL.out HCL.out (by assumption) ?_
                     intro v' w' own2 gr2 loc2
                     have nb : ∀ {bb : Nat} {cs : Array Value} {T : TypeId}, BlkW wr bb cs T → T ≠ 3 → BlkW w' bb cs T := fun {bb cs T} hb hT => (gr2.block bb hb.lt fun e => by
                       obtain ⟨ds, hd⟩ := own_cells HOB.out e.symm
                       exact blk_ne hb hd hT rfl).trans hb
                     have t9 := nb HTP.out (by decide)
                     have g9 := nb HG8.out node_ne_int
                     have HR := hid (HGR.out w' v' C own2 gr2 loc2)
                     obtain ⟨a9, c9, hv9, _⟩ := own_isZ own2
                     subst hv9
                     have t0 := t9.cell 0
                     simp only [List.getElem?_toArray, List.getElem?_cons_zero] at t0
                     have f9 := g9.free (b * 8 + 7)
                     have c9 : ∃ y, w'.cell? ⟨g, b * 8 + 7, none⟩ = some y := ⟨_, (World.cell?_of_block (w := wr) (a := ⟨g, b * 8 + 7, none⟩) (g9.trans HG8.out.symm)).trans c3⟩
                     obtain ⟨y9, c9⟩ := c9
                     clear own2 gr2 loc2 nb t9 g9)
      all_goals go_wp2
      all_goals go_ret
      all_goals exact ⟨rfl, Turned.after HTu.out HR.out⟩
open Classical in
/-- Move, of whatever numbers. -/
theorem rmove_any (w : World) (base R : Nat) (S : Nat → Prop) (t : Dom.T) (a b : Int) (h : TreeX w base R S t) (hG : Dom.Good t) (hf : t.length ≤ 1000000) (hbase : base ≤ w.heap.size) :
    Calls Try.prog 22 #[.pointer (some ⟨R, 0, none⟩), .int .i64 a, .int .i64 b] w fun e w' => e = .returned (.bool (Dom.moveT t a b).2) ∧ Turned w w' base R S (Dom.moveT t a b).1 := by
  have no : (Calls Try.prog 22 #[.pointer (some ⟨R, 0, none⟩), .int .i64 a, .int .i64 b] w fun e w' => e = .returned (.bool false) ∧ w' = w) → (¬ Dom.there t a ∨ ¬ Dom.holds t b ∨ Dom.kidsAt t a.toNat = [] ∨ Dom.Up t b.toNat a.toNat) → Calls Try.prog 22 #[.pointer (some ⟨R, 0, none⟩), .int .i64 a, .int .i64 b] w fun e w' => e = .returned (.bool (Dom.moveT t a b).2) ∧ Turned w w' base R S (Dom.moveT t a b).1 := by
    intro hc hn
    have e : Dom.moveT t a b = (t, false) := by
      unfold Dom.moveT
      rw [if_pos hn]
    rw [e]
    exact hc.mono fun e w' ⟨h1, h2⟩ => ⟨h1, by rw [h2]; exact Turned.same h⟩
  by_cases h1 : Dom.there t a
  · by_cases h2 : Dom.holds t b
    · by_cases h3 : Dom.kidsAt t a.toNat = []
      · exact no (rmove_n3 w base R S t a b h hG hf h1 h2 h3) (.inr (.inr (.inl h3)))
      · by_cases h4 : Dom.Up t b.toNat a.toNat
        · exact no (rmove_n4 w base R S t a b h hG hf h1 h2 h3 h4) (.inr (.inr (.inr h4)))
        · obtain ⟨m, rfl⟩ : ∃ n : Nat, a = n := ⟨a.toNat, by have := h1.1; omega⟩
          obtain ⟨n, rfl⟩ : ∃ n : Nat, b = n := ⟨b.toNat, by have := h2.1.1; omega⟩
          have e : (Dom.moveT t m n).2 = true := by
            unfold Dom.moveT
            rw [if_neg]
            rintro (g | g | g | g)
            · exact g h1
            · exact g h2
            · exact h3 g
            · exact h4 g
          rw [e]
          exact rmove_yes w base R S t m n h hG hf hbase h1 h2 h3 h4
    · exact no (rmove_n2 w base R S t a b h hG hf h1 h2) (.inr (.inl h2))
  · exact no (rmove_n1 w base R S t a b h hG hf h1) (.inl h1)
end Go.Proofs.Ythbklcpjbeelhaa
