/- Walks over the reference of layer 10: Put, where it puts. Written by tools/gen_refput.py. -/
import Derived.Test.YthbklcpjbeelhaaRefPutN
namespace Go.Proofs.Ythbklcpjbeelhaa
open Go.RowKit Go.Lib
set_option maxRecDepth 100000
set_option linter.unusedVariables false

open Classical in
set_option maxHeartbeats 16000000 in
theorem rput_yes (w : World) (base R : Nat) (S : Nat → Prop) (t : Dom.T) (p : Nat) (b : Int) (i : Nat) (h : TreeX w base R S t) (hG : Dom.Good t) (hf : t.length ≤ 1000000) (hbase : base ≤ w.heap.size)
    (h1 : Dom.holds t p) (h2 : Dom.there t i) (h3 : i ≠ 0) (h4 : b ≠ i) (h5 : ¬ Dom.Up t p i) (h6 : ¬ Dom.placeL (Dom.kidsAt t p) b < 0) :
    Calls Try.prog 18 #[.pointer (some ⟨R, 0, none⟩), .int .i64 p, .int .i64 b, .int .i64 i] w fun e w' => e = .returned (.bool true) ∧ Turned w w' base R S (Dom.putT t p b i).1 := by
  have HX := hid h
  have hH := h1
  obtain ⟨⟨_, p2⟩, p3⟩ := h1
  obtain ⟨_, i2⟩ := h2
  have hpt : p < t.length := by omega
  have hit : i < t.length := by omega
  have hcut := Dom.cut_is hG hit
  have HCUT := hid fun W (hW : TreeX W base R S t) hb => rcut_any W base R S t i hW hG hf hb
  have hput : (Dom.putT t p b i).1 = Dom.insT (Dom.cutT t i).1 p (Dom.placeL (Dom.kidsAt (Dom.cutT t i).1 p) b).toNat i := by
    unfold Dom.putT
    rw [if_neg]
    · rfl
    · intro g
      rcases g with g | g | g | g | g | g
      · exact g hH
      · exact g ⟨by omega, by omega⟩
      · omega
      · exact h4 g
      · exact h5 g
      · exact h6 g
  have hk0 : 0 ≤ Dom.placeL (Dom.kidsAt (Dom.cutT t i).1 p) b := by
    rcases hG.par i with e | ⟨q, q1, e, _⟩
    · have : Dom.cutT t i = (t, false) := by
        unfold Dom.cutT
        rw [show ((i : Int)).toNat = i by omega, e, if_pos (.inr (by omega))]
      rw [this]
      show 0 ≤ Dom.placeL (Dom.kidsAt t p) b
      omega
    · have c := (Dom.cut_says hG e).2
      rw [c.kids]
      split
      · rename_i e2
        subst e2
        exact placeL_erase h4 (by omega)
      · omega
  obtain ⟨u, hu⟩ : ∃ u, (Dom.cutT t i).1 = u := ⟨_, rfl⟩
  rw [hu] at hcut hput hk0 HCUT
  obtain ⟨hG2, hlen2, hpar2, _, _⟩ := hcut
  obtain ⟨v, rs, h⟩ := h
  obtain ⟨g, cap, rfl, hnc, hR⟩ := h.read hG.some hf
  have HA := rholds_any w R g cap t p hR
  have HB := there_any w R g cap t i hR
  have HC := rwithin_any w R g cap t p i hR hG hpt hit
  have HD := rplace_any w R g cap t p b hR hpt (by have := good_few hG p; omega)
  obtain ⟨q, hq⟩ : ∃ q, Dom.placeL (Dom.kidsAt t p) b = q := ⟨_, rfl⟩
  rw [hq] at HD h6
  have e6 : decide (q < 0) = false := decide_eq_false h6
  rw [decide_eq_true hH] at HA
  rw [decide_eq_true ⟨by omega, by omega⟩] at HB
  rw [decide_eq_false h5] at HC
  have e3 : ((i : Int) == 0) = false := by simp; exact h3
  have e4 : (b == (i : Int)) = false := by simp; exact h4
  have HA := hid HA
  have HB := hid HB
  have HC := hid HC
  have HD := hid HD
  have hfew2 := good_few hG2 p
  have hrange := Dom.placeL_range (Dom.kidsAt u p) b
  obtain ⟨L, hL⟩ : ∃ L, Dom.kidsAt u p = L := ⟨_, rfl⟩
  rw [hL] at hk0 hput hfew2 hrange
  obtain ⟨k, hk⟩ : ∃ k : Nat, Dom.placeL L b = (k : Int) := ⟨(Dom.placeL L b).toNat, by omega⟩
  rw [hk] at hk0 hput hrange
  rw [show ((k : Int)).toNat = k by omega] at hput
  have hkL : k ≤ L.length := by omega
  have hput2 : (Dom.putT t p b i).1 = Dom.upd (Dom.upd u p fun x => { x with kids := L.take k ++ i :: L.drop k }) i fun x => { x with par := (p : Int) } := by
    rw [hput]
    unfold Dom.insT
    have hp2 : p < u.length := by omega
    rw [upd_set (node_get hp2), upd_set (node_get hp2), show (Dom.nodeAt u p).kids = L from hL]
  rw [hput2]
  have hkL2 : L.length ≤ 1000000 := by omega
  obtain ⟨A, hA⟩ : ∃ A, L.take k = A := ⟨_, rfl⟩
  obtain ⟨B, hB⟩ : ∃ B, L.drop k = B := ⟨_, rfl⟩
  have HL1 := hid (show A.length ≤ 8589934592 by rw [← hA, List.length_take]; omega)
  have HLA := hid (show (A ++ [i]).length ≤ 8589934592 by rw [← hA, List.length_append, List.length_take]; show _ + 1 ≤ _; omega)
  have HLC := hid (show ((A ++ [i]) ++ B).length ≤ 8589934592 by rw [← hA, ← hB, List.length_append, List.length_append, List.length_take, List.length_drop]; show _ + 1 + _ ≤ _; omega)
  rw [show L.take k ++ i :: L.drop k = (A ++ [i]) ++ B by rw [hA, hB, List.append_assoc]; rfl]
  obtain ⟨A1, hA1⟩ : ∃ A1, A ++ [i] = A1 := ⟨_, rfl⟩
  rw [hA1] at HLA HLC ⊢
  obtain ⟨C, hC⟩ : ∃ C, A1 ++ B = C := ⟨_, rfl⟩
  rw [hC] at HLC ⊢
  have HA1 := hid hA1
  have HC1 := hid hC
  have HLL := hid hL
  have HK := hid hk
  have HAe := hid hA
  have HBe := hid hB
  have HG2 := hid hG2
  have hp2 : p < u.length := by omega
  have hi2 : i < u.length := by omega
  have hfu : u.length ≤ 1000000 := by omega
  have HP2 := hid hpar2
  clear hA hB hA1 hC hL hk hput hput2 hR h hq hG hu hH hrange hk0 h5 h6 p3 hG2 hpar2 h3 h4
  go_enter Try.func18, Try.ntmps18
  go_wp2_with fail
  refine (HA.out).mono ?_
  rintro e w1 ⟨rfl, rfl⟩
  go_wp2_with fail
  refine (HB.out).mono ?_
  rintro e w1 ⟨rfl, rfl⟩
  go_wp2_with fail
  refine (HC.out).mono ?_
  rintro e w1 ⟨rfl, rfl⟩
  go_wp2_with fail
  refine (HD.out).mono ?_
  rintro e w1 ⟨rfl, rfl⟩
  go_wp2_with fail
  refine (HCUT.out _ HX.out hbase).mono ?_
  rintro e w5 ⟨rfl, hT⟩
  obtain ⟨S2, ⟨v2, rs2, h2⟩, T2⟩ := hT
  obtain ⟨g2, cap2, rfl, hnc2, hR2⟩ := h2.read HG2.out.some hfu
  obtain ⟨cs9, HG9⟩ := own_cells h2.own (g := g2) rfl
  have HG9 := hid HG9
  have hb5 := T2.size
  have HO := hid fun (w' : World) kv l hb hk => h2.ins (w' := w') (i := i) (p := p) rfl hi2 hp2 (p : Int) kv l hb (by omega) hk
  have T2 := hid T2
  have k1 := hR2.top
  have HP := rplace_any w5 R g2 cap2 u p b hR2 hp2 (by rw [HLL.out]; exact hkL2)
  rw [HLL.out, HK.out] at HP
  have HP := hid HP
  obtain ⟨aa, an, ac, ka, kn, kc, X⟩ := hR2.at_ p _ (node_get hp2)
  have x7 := X.c7
  have hZ := X.kids
  have hle := X.kle
  have hknil := X.knil
  rw [show (Dom.nodeAt u p).kids = L from HLL.out] at hZ
  obtain ⟨aa2, an2, ac2, ka2, kn2, kc2, Y⟩ := hR2.at_ i _ (node_get hi2)
  have y6 := Y.c6
  rw [show (Dom.nodeAt u i).par = -1 from HP2.out] at y6
  obtain ⟨n, hn⟩ : ∃ n, List.length u = n := ⟨_, rfl⟩
  rw [hn] at k1 hnc2 hi2 hp2
  have hkn := hZ.1
  have hkk : k ≤ kn := by omega
  have hkc : k ≤ kc := by omega
  have hp3 : (p : Int) < (n : Int) := by omega
  have hi3 : (i : Int) < (n : Int) := by omega
  have z1 : ((p : Int)).toNat = p := by omega
  have z2 : ((i : Int)).toNat = i := by omega
  have z3 : ((k : Int)).toNat = k := by omega
  have HZ1 := hid (isZ_take hZ k hkk)
  rw [HAe.out] at HZ1
  have HN1 : Hid (ka = none → kc = 0) := hid hknil
  have HZL := hid hZ
  clear X Y hR2 h2 hn hZ hknil
  go_wp2_with fail
  refine (HP.out).mono ?_
  rintro e w5 ⟨rfl, rfl⟩
  by_cases q0 : kc = 0
  · subst q0
    obtain rfl : kn = 0 := by omega
    obtain rfl : k = 0 := by omega
    have HZ2 := HZL
    rw [show L = B by rw [← HBe.out]; rfl] at HZ2
    have HN2 := HN1
    go_wp2_with (at_builtin; refine append_Zr rfl _ _ rfl w5.heap.size _ [] rfl (World.ownsRow_nil _ _ _ _) ka 0 0 A A rfl rfl HZ1.out (fun _ => rfl) HL1.out (Nat.le_refl _) ?_)
    intro v6 w6 hown hgr
    have b6 : Below w5.heap.size w5 w6 := (Below.refl _ w5).grown hgr (Nat.le_refl _) (fun k e => by simp [Value.ownBlock] at e)
    have HB6 := hid b6
    have HO6 := hid (own_below hown ((Below.refl w6.heap.size w6).alloc (Nat.le_refl _) (.cells #[.int .i64 i] 3)))
    have b7 := b6.alloc b6.size (.cells #[.int .i64 i] 3)
    have HB7 := hid b7
    have NZ := hid (show IsZ (w6.alloc (.cells #[.int .i64 i] 3)) (some ⟨w6.heap.size, 0, none⟩) 1 [i] from ⟨rfl, .inr ⟨_, 0, rfl, fun j x hx => by
      have hj : j = 0 := by
        have := (List.getElem?_eq_some_iff.1 hx).1
        simp at this
        exact this
      subst hj
      obtain rfl : i = x := by simpa using hx
      exact (BlkW.new w6 _ _).cell 0⟩⟩)
    clear hown hgr b6 b7
    go_wp2_with (at_builtin; refine append_Zr rfl _ _ rfl w5.heap.size v6 A rfl HO6.out (some ⟨w6.heap.size, 0, none⟩) 1 1 [i] A1 HA1.out rfl NZ.out (fun e => by cases e) HLA.out HB7.out.size ?_)
    intro v8 w8 hown hgr
    have HB8 := hid (HB7.out.grown hgr HB7.out.size (own_ge HO6.out))
    have HO8 := hid hown
    have x78 := cell_up x7 HB8.out
    have h18 := cell_up k1 HB8.out
    have HZ8 := hid (HZ2.out.below HB8.out)
    clear hown hgr
    go_wp2_with (at_builtin; refine append_Zr rfl _ _ rfl w5.heap.size v8 A1 rfl HO8.out ka 0 0 B C HC1.out rfl HZ8.out (fun _ => rfl) HLC.out HB8.out.size ?_)
    intro v9 w9 hown hgr
    have HB9 := hid (HB8.out.grown hgr HB8.out.size (own_ge HO8.out))
    obtain ⟨a9, c9, rfl, _⟩ := own_isZ hown
    have HO9 := hid hown
    have h19 := cell_up k1 HB9.out
    have g9 := HG9.out.below HB9.out HG9.out.lt
    have f7 := g9.free (p * 8 + 7)
    have f6 := g9.free (i * 8 + 6)
    have c7 := cell_up x7 HB9.out
    have c6 := cell_up y6 HB9.out
    clear hown hgr
    go_wp2
    go_ret
    refine ⟨rfl, ?_⟩
    exact Turned.after T2.out (HO.out w9 _ _ HB9.out HO9.out)
  · have q1 : 0 < kc := by omega
    have q2 : ¬ kc = 0 := q0
    obtain ⟨⟨b0, o0, f0⟩, hka⟩ : ∃ x, ka = some x := by
      cases ka with
      | none => exact absurd (HN1.out rfl) q0
      | some x => exact ⟨x, rfl⟩
    subst hka
    have HFN := hid (show kn ≠ 0 → f0 = none from fun hne => by
      obtain ⟨b1, o1, e1, _⟩ := HZL.out.2.resolve_left hne
      cases e1
      rfl)
    have hf0 : True := trivial
    by_cases q3 : kc = k
    · subst q3
      obtain rfl : kn = kc := by omega
      have q4 : kn - kn = 0 := by omega
      have HZ2 : Hid (IsZ w5 (some ⟨b0, o0, f0⟩) 0 B) := hid ⟨by rw [← HBe.out, List.length_drop]; omega, .inl rfl⟩
      have HN2 : Hid (some (⟨b0, o0, f0⟩ : Addr) = none → 0 = 0) := hid fun _ => rfl
      have q5 : ¬ kn = 0 := q0
      go_wp2_with (at_builtin; refine append_Zr rfl _ _ rfl w5.heap.size _ [] rfl (World.ownsRow_nil _ _ _ _) (some ⟨b0, o0, f0⟩) kn kn A A rfl rfl HZ1.out (fun e => by cases e) HL1.out (Nat.le_refl _) ?_)
      intro v6 w6 hown hgr
      have b6 : Below w5.heap.size w5 w6 := (Below.refl _ w5).grown hgr (Nat.le_refl _) (fun k e => by simp [Value.ownBlock] at e)
      have HB6 := hid b6
      have HO6 := hid (own_below hown ((Below.refl w6.heap.size w6).alloc (Nat.le_refl _) (.cells #[.int .i64 i] 3)))
      have b7 := b6.alloc b6.size (.cells #[.int .i64 i] 3)
      have HB7 := hid b7
      have NZ := hid (show IsZ (w6.alloc (.cells #[.int .i64 i] 3)) (some ⟨w6.heap.size, 0, none⟩) 1 [i] from ⟨rfl, .inr ⟨_, 0, rfl, fun j x hx => by
        have hj : j = 0 := by
          have := (List.getElem?_eq_some_iff.1 hx).1
          simp at this
          exact this
        subst hj
        obtain rfl : i = x := by simpa using hx
        exact (BlkW.new w6 _ _).cell 0⟩⟩)
      clear hown hgr b6 b7
      go_wp2_with (at_builtin; refine append_Zr rfl _ _ rfl w5.heap.size v6 A rfl HO6.out (some ⟨w6.heap.size, 0, none⟩) 1 1 [i] A1 HA1.out rfl NZ.out (fun e => by cases e) HLA.out HB7.out.size ?_)
      intro v8 w8 hown hgr
      have HB8 := hid (HB7.out.grown hgr HB7.out.size (own_ge HO6.out))
      have HO8 := hid hown
      have x78 := cell_up x7 HB8.out
      have h18 := cell_up k1 HB8.out
      have HZ8 := hid (HZ2.out.below HB8.out)
      clear hown hgr
      go_wp2_with (at_builtin; refine append_Zr rfl _ _ rfl w5.heap.size v8 A1 rfl HO8.out (some ⟨b0, o0, f0⟩) 0 0 B C HC1.out rfl HZ8.out (fun _ => rfl) HLC.out HB8.out.size ?_)
      intro v9 w9 hown hgr
      have HB9 := hid (HB8.out.grown hgr HB8.out.size (own_ge HO8.out))
      obtain ⟨a9, c9, rfl, _⟩ := own_isZ hown
      have HO9 := hid hown
      have h19 := cell_up k1 HB9.out
      have g9 := HG9.out.below HB9.out HG9.out.lt
      have f7 := g9.free (p * 8 + 7)
      have f6 := g9.free (i * 8 + 6)
      have c7 := cell_up x7 HB9.out
      have c6 := cell_up y6 HB9.out
      clear hown hgr
      go_wp2
      go_ret
      refine ⟨rfl, ?_⟩
      exact Turned.after T2.out (HO.out w9 _ _ HB9.out HO9.out)
    · have q4 : ¬ k = kc := fun e => q3 e.symm
      by_cases q6 : kn = 0
      · subst q6
        obtain rfl : k = 0 := by omega
        have HZ2 := HZL
        rw [show L = B by rw [← HBe.out]; rfl] at HZ2
        have HN2 := HN1
        go_wp2_with (at_builtin; refine append_Zr rfl _ _ rfl w5.heap.size _ [] rfl (World.ownsRow_nil _ _ _ _) (some ⟨b0, o0, f0⟩) 0 kc A A rfl rfl HZ1.out (fun e => by cases e) HL1.out (Nat.le_refl _) ?_)
        intro v6 w6 hown hgr
        have b6 : Below w5.heap.size w5 w6 := (Below.refl _ w5).grown hgr (Nat.le_refl _) (fun k e => by simp [Value.ownBlock] at e)
        have HB6 := hid b6
        have HO6 := hid (own_below hown ((Below.refl w6.heap.size w6).alloc (Nat.le_refl _) (.cells #[.int .i64 i] 3)))
        have b7 := b6.alloc b6.size (.cells #[.int .i64 i] 3)
        have HB7 := hid b7
        have NZ := hid (show IsZ (w6.alloc (.cells #[.int .i64 i] 3)) (some ⟨w6.heap.size, 0, none⟩) 1 [i] from ⟨rfl, .inr ⟨_, 0, rfl, fun j x hx => by
          have hj : j = 0 := by
            have := (List.getElem?_eq_some_iff.1 hx).1
            simp at this
            exact this
          subst hj
          obtain rfl : i = x := by simpa using hx
          exact (BlkW.new w6 _ _).cell 0⟩⟩)
        clear hown hgr b6 b7
        go_wp2_with (at_builtin; refine append_Zr rfl _ _ rfl w5.heap.size v6 A rfl HO6.out (some ⟨w6.heap.size, 0, none⟩) 1 1 [i] A1 HA1.out rfl NZ.out (fun e => by cases e) HLA.out HB7.out.size ?_)
        intro v8 w8 hown hgr
        have HB8 := hid (HB7.out.grown hgr HB7.out.size (own_ge HO6.out))
        have HO8 := hid hown
        have x78 := cell_up x7 HB8.out
        have h18 := cell_up k1 HB8.out
        have HZ8 := hid (HZ2.out.below HB8.out)
        clear hown hgr
        go_wp2_with (at_builtin; refine append_Zr rfl _ _ rfl w5.heap.size v8 A1 rfl HO8.out (some ⟨b0, o0, f0⟩) 0 kc B C HC1.out rfl HZ8.out (fun e => by cases e) HLC.out HB8.out.size ?_)
        intro v9 w9 hown hgr
        have HB9 := hid (HB8.out.grown hgr HB8.out.size (own_ge HO8.out))
        obtain ⟨a9, c9, rfl, _⟩ := own_isZ hown
        have HO9 := hid hown
        have h19 := cell_up k1 HB9.out
        have g9 := HG9.out.below HB9.out HG9.out.lt
        have f7 := g9.free (p * 8 + 7)
        have f6 := g9.free (i * 8 + 6)
        have c7 := cell_up x7 HB9.out
        have c6 := cell_up y6 HB9.out
        clear hown hgr
        go_wp2
        go_ret
        refine ⟨rfl, ?_⟩
        exact Turned.after T2.out (HO.out w9 _ _ HB9.out HO9.out)
      · obtain rfl : f0 = none := HFN.out q6
        have HZ2 := hid (isZ_drop HZL.out k hkk)
        rw [HBe.out] at HZ2
        have HN2 : Hid (some (⟨b0, o0 + k, none⟩ : Addr) = none → kc - k = 0) := hid (fun e => by cases e)
        go_wp2_with (at_builtin; refine append_Zr rfl _ _ rfl w5.heap.size _ [] rfl (World.ownsRow_nil _ _ _ _) (some ⟨b0, o0, none⟩) k kc A A rfl rfl HZ1.out (fun e => by cases e) HL1.out (Nat.le_refl _) ?_)
        intro v6 w6 hown hgr
        have b6 : Below w5.heap.size w5 w6 := (Below.refl _ w5).grown hgr (Nat.le_refl _) (fun k e => by simp [Value.ownBlock] at e)
        have HB6 := hid b6
        have HO6 := hid (own_below hown ((Below.refl w6.heap.size w6).alloc (Nat.le_refl _) (.cells #[.int .i64 i] 3)))
        have b7 := b6.alloc b6.size (.cells #[.int .i64 i] 3)
        have HB7 := hid b7
        have NZ := hid (show IsZ (w6.alloc (.cells #[.int .i64 i] 3)) (some ⟨w6.heap.size, 0, none⟩) 1 [i] from ⟨rfl, .inr ⟨_, 0, rfl, fun j x hx => by
          have hj : j = 0 := by
            have := (List.getElem?_eq_some_iff.1 hx).1
            simp at this
            exact this
          subst hj
          obtain rfl : i = x := by simpa using hx
          exact (BlkW.new w6 _ _).cell 0⟩⟩)
        clear hown hgr b6 b7
        go_wp2_with (at_builtin; refine append_Zr rfl _ _ rfl w5.heap.size v6 A rfl HO6.out (some ⟨w6.heap.size, 0, none⟩) 1 1 [i] A1 HA1.out rfl NZ.out (fun e => by cases e) HLA.out HB7.out.size ?_)
        intro v8 w8 hown hgr
        have HB8 := hid (HB7.out.grown hgr HB7.out.size (own_ge HO6.out))
        have HO8 := hid hown
        have x78 := cell_up x7 HB8.out
        have h18 := cell_up k1 HB8.out
        have HZ8 := hid (HZ2.out.below HB8.out)
        clear hown hgr
        go_wp2_with (at_builtin; refine append_Zr rfl _ _ rfl w5.heap.size v8 A1 rfl HO8.out (some ⟨b0, o0 + k, none⟩) (kn - k) (kc - k) B C HC1.out rfl HZ8.out (fun e => by cases e) HLC.out HB8.out.size ?_)
        intro v9 w9 hown hgr
        have HB9 := hid (HB8.out.grown hgr HB8.out.size (own_ge HO8.out))
        obtain ⟨a9, c9, rfl, _⟩ := own_isZ hown
        have HO9 := hid hown
        have h19 := cell_up k1 HB9.out
        have g9 := HG9.out.below HB9.out HG9.out.lt
        have f7 := g9.free (p * 8 + 7)
        have f6 := g9.free (i * 8 + 6)
        have c7 := cell_up x7 HB9.out
        have c6 := cell_up y6 HB9.out
        clear hown hgr
        go_wp2
        go_ret
        refine ⟨rfl, ?_⟩
        exact Turned.after T2.out (HO.out w9 _ _ HB9.out HO9.out)
open Classical in
/-- Put, of whatever numbers. -/
theorem rput_any (w : World) (base R : Nat) (S : Nat → Prop) (t : Dom.T) (p b i : Int) (h : TreeX w base R S t) (hG : Dom.Good t) (hf : t.length ≤ 1000000) (hbase : base ≤ w.heap.size) :
    Calls Try.prog 18 #[.pointer (some ⟨R, 0, none⟩), .int .i64 p, .int .i64 b, .int .i64 i] w fun e w' => e = .returned (.bool (Dom.putT t p b i).2) ∧ Turned w w' base R S (Dom.putT t p b i).1 := by
  have no : (Calls Try.prog 18 #[.pointer (some ⟨R, 0, none⟩), .int .i64 p, .int .i64 b, .int .i64 i] w fun e w' => e = .returned (.bool false) ∧ w' = w) → (¬ Dom.holds t p ∨ ¬ Dom.there t i ∨ i = 0 ∨ b = i ∨ Dom.Up t p.toNat i.toNat ∨ Dom.placeL (Dom.kidsAt t p.toNat) b < 0) → Calls Try.prog 18 #[.pointer (some ⟨R, 0, none⟩), .int .i64 p, .int .i64 b, .int .i64 i] w fun e w' => e = .returned (.bool (Dom.putT t p b i).2) ∧ Turned w w' base R S (Dom.putT t p b i).1 := by
    intro hc hn
    have e : Dom.putT t p b i = (t, false) := by
      unfold Dom.putT
      rw [if_pos hn]
    rw [e]
    exact hc.mono fun e w' ⟨h1, h2⟩ => ⟨h1, by rw [h2]; exact Turned.same h⟩
  by_cases h1 : Dom.holds t p
  · by_cases h2 : Dom.there t i
    · by_cases h3 : i = 0
      · exact no (rput_n3 w base R S t p b i h hG hf h1 h2 h3) (.inr (.inr (.inl h3)))
      · by_cases h4 : b = i
        · exact no (rput_n4 w base R S t p b i h hG hf h1 h2 h3 h4) (.inr (.inr (.inr (.inl h4))))
        · by_cases h5 : Dom.Up t p.toNat i.toNat
          · exact no (rput_n5 w base R S t p b i h hG hf h1 h2 h3 h4 h5) (.inr (.inr (.inr (.inr (.inl h5)))))
          · by_cases h6 : Dom.placeL (Dom.kidsAt t p.toNat) b < 0
            · exact no (rput_n6 w base R S t p b i h hG hf h1 h2 h3 h4 h5 h6) (.inr (.inr (.inr (.inr (.inr h6)))))
            · obtain ⟨pn, rfl⟩ : ∃ n : Nat, p = n := ⟨p.toNat, by have := h1.1.1; omega⟩
              obtain ⟨n, rfl⟩ : ∃ n : Nat, i = n := ⟨i.toNat, by have := h2.1; omega⟩
              have e : (Dom.putT t pn b n).2 = true := by
                unfold Dom.putT
                rw [if_neg]
                intro g
                rcases g with g | g | g | g | g | g
                · exact g h1
                · exact g h2
                · exact h3 g
                · exact h4 g
                · exact h5 g
                · exact h6 g
              rw [e]
              exact rput_yes w base R S t pn b n h hG hf hbase h1 h2 (by omega) h4 h5 h6
    · exact no (rput_n2 w base R S t p b i h hG hf h1 h2) (.inr (.inl h2))
  · exact no (rput_n1 w base R S t p b i h hG hf h1) (.inl h1)
end Go.Proofs.Ythbklcpjbeelhaa
