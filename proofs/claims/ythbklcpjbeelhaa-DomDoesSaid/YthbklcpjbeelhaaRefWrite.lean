/- Walks over the reference of layer 10: Write. Written by tools/gen_refwrite.py. -/
import Derived.Test.YthbklcpjbeelhaaRefMake
import Derived.Test.YthbklcpjbeelhaaRefPut
import Derived.Test.YthbklcpjbeelhaaTreeGrow
import Derived.Deep.LoopGhost
namespace Go.Proofs.Ythbklcpjbeelhaa
open Go.RowKit Go.Lib
set_option maxRecDepth 100000
set_option linter.unusedVariables false

theorem tw_cat (a b : List UInt8) : bs a ++ bs b = bs (a ++ b) := by
  apply ByteArray.ext
  rw [ByteArray.data_append]
  apply Array.ext'
  rw [Array.toList_append]
  rfl
set_option maxHeartbeats 4000000 in
theorem rwrite_n1 (w : World) (base R : Nat) (S : Nat → Prop) (t : Dom.T) (p b : Int) (s : List UInt8) (h : TreeX w base R S t) (hG : Dom.Good t) (hf : t.length ≤ 1000000) (h1 : ¬ Dom.holds t p) :
    Calls Try.prog 24 #[.pointer (some ⟨R, 0, none⟩), .int .i64 p, .int .i64 b, .string (bs s)] w fun e w' => e = .returned (.bool false) ∧ w' = w := by
  obtain ⟨v, rs, h⟩ := h
  obtain ⟨g, cap, rfl, hnc, hR⟩ := h.read hG.some hf
  have HA := rholds_any w R g cap t p hR
  rw [decide_eq_false h1] at HA
  obtain ⟨TX, hTX⟩ : ∃ TX, bs s = TX := ⟨_, rfl⟩
  rw [hTX]
  have HA := hid HA
  clear hR h hG h1 hTX
  go_enter Try.func24, Try.ntmps24
  go_wp2_with fail
  refine (HA.out).mono ?_
  rintro e w1 ⟨rfl, rfl⟩
  go_wp2
  go_ret
  exact ⟨rfl, rfl⟩
set_option maxHeartbeats 4000000 in
theorem rwrite_n2 (w : World) (base R : Nat) (S : Nat → Prop) (t : Dom.T) (p b : Int) (s : List UInt8) (h : TreeX w base R S t) (hG : Dom.Good t) (hf : t.length ≤ 1000000) (h1 : Dom.holds t p) (h2 : Dom.placeL (Dom.kidsAt t p.toNat) b < 0) :
    Calls Try.prog 24 #[.pointer (some ⟨R, 0, none⟩), .int .i64 p, .int .i64 b, .string (bs s)] w fun e w' => e = .returned (.bool false) ∧ w' = w := by
  obtain ⟨v, rs, h⟩ := h
  obtain ⟨g, cap, rfl, hnc, hR⟩ := h.read hG.some hf
  have HA := rholds_any w R g cap t p hR
  have p1 := h1.1.1
  have p2 := h1.1.2
  have HD := rplace_any w R g cap t p.toNat b hR (by omega) (by have := good_few hG p.toNat; omega)
  rw [show ((p.toNat : Nat) : Int) = p by omega] at HD
  rw [decide_eq_true h1] at HA
  have HA := hid HA
  obtain ⟨q, hq⟩ : ∃ q, Dom.placeL (Dom.kidsAt t p.toNat) b = q := ⟨_, rfl⟩
  rw [hq] at HD h2
  have HD := hid HD
  obtain ⟨TX, hTX⟩ : ∃ TX, bs s = TX := ⟨_, rfl⟩
  rw [hTX]
  have e6 : decide (q < 0) = true := decide_eq_true h2
  clear hR h hG h1 hq hTX
  go_enter Try.func24, Try.ntmps24
  go_wp2_with fail
  refine (HA.out).mono ?_
  rintro e w1 ⟨rfl, rfl⟩
  go_wp2_with fail
  refine (HD.out).mono ?_
  rintro e w1 ⟨rfl, rfl⟩
  go_wp2
  go_ret
  exact ⟨rfl, rfl⟩
set_option maxHeartbeats 4000000 in
theorem rwrite_n3 (w : World) (base R : Nat) (S : Nat → Prop) (t : Dom.T) (p b : Int) (s : List UInt8) (h : TreeX w base R S t) (hG : Dom.Good t) (hf : t.length ≤ 1000000) (h1 : Dom.holds t p) (h2 : ¬ Dom.placeL (Dom.kidsAt t p.toNat) b < 0) (h3 : s = []) :
    Calls Try.prog 24 #[.pointer (some ⟨R, 0, none⟩), .int .i64 p, .int .i64 b, .string (bs s)] w fun e w' => e = .returned (.bool true) ∧ w' = w := by
  obtain ⟨v, rs, h⟩ := h
  obtain ⟨g, cap, rfl, hnc, hR⟩ := h.read hG.some hf
  have HA := rholds_any w R g cap t p hR
  have p1 := h1.1.1
  have p2 := h1.1.2
  have HD := rplace_any w R g cap t p.toNat b hR (by omega) (by have := good_few hG p.toNat; omega)
  rw [show ((p.toNat : Nat) : Int) = p by omega] at HD
  rw [decide_eq_true h1] at HA
  have HA := hid HA
  obtain ⟨q, hq⟩ : ∃ q, Dom.placeL (Dom.kidsAt t p.toNat) b = q := ⟨_, rfl⟩
  rw [hq] at HD h2
  have HD := hid HD
  subst h3
  have e6 : decide (q < 0) = false := decide_eq_false h2
  have e7 : (bs ([] : List UInt8)).toList.isEmpty = true := by rw [ByteArray.toList_eq]; rfl
  obtain ⟨TX, hTX⟩ : ∃ TX, bs ([] : List UInt8) = TX := ⟨_, rfl⟩
  rw [hTX] at e7 ⊢
  clear hR h hG h1 hq hTX
  go_enter Try.func24, Try.ntmps24
  go_wp2_with fail
  refine (HA.out).mono ?_
  rintro e w1 ⟨rfl, rfl⟩
  go_wp2_with fail
  refine (HD.out).mono ?_
  rintro e w1 ⟨rfl, rfl⟩
  go_wp2
  go_ret
  exact ⟨rfl, rfl⟩
set_option maxHeartbeats 8000000 in
theorem rwrite_y1 (w : World) (base R : Nat) (S : Nat → Prop) (t : Dom.T) (p : Nat) (b : Int) (s : List UInt8) (k : Nat) (h : TreeX w base R S t) (hG : Dom.Good t) (hf : t.length ≤ 1000000) (hbase : base ≤ w.heap.size)
    (h1 : Dom.holds t p) (hk : Dom.placeL (Dom.kidsAt t p) b = (k : Int)) (h3 : s ≠ []) (h4 : 0 < k) (h5 : Dom.kindAt t ((Dom.kidsAt t p).getD (k - 1) 0) = 2) (htx : ∀ i, (Dom.nodeAt t i).nd.text.length ≤ 4000000000) (hs : s.length ≤ 4000000000) :
    Calls Try.prog 24 #[.pointer (some ⟨R, 0, none⟩), .int .i64 p, .int .i64 b, .string (bs s)] w fun e w' => e = .returned (.bool true) ∧ Turned w w' base R S (Dom.upd t ((Dom.kidsAt t p).getD (k - 1) 0) fun x => Dom.addText x s) := by
  obtain ⟨v, rs, h⟩ := h
  have HX := hid (show TreeX w base R S t from ⟨v, rs, h⟩)
  obtain ⟨g, cap, rfl, hnc, hR⟩ := h.read hG.some hf
  have HA := rholds_any w R g cap t p hR
  have p2 := h1.1.2
  have hpt : p < t.length := by omega
  have HD := rplace_any w R g cap t p b hR hpt (by have := good_few hG p; omega)
  rw [decide_eq_true h1] at HA
  have HA := hid HA
  rw [hk] at HD
  have HD := hid HD
  have e6 : decide ((k : Int) < 0) = false := decide_eq_false (by omega)
  have e7 : (bs s).toList.isEmpty = false := by
    rw [ByteArray.toList_eq]
    show s.isEmpty = false
    cases s with
    | nil => exact absurd rfl h3
    | cons c r => rfl
  have k1 := hR.top
  obtain ⟨aa, an, ac, ka, kn, kc, X⟩ := hR.at_ p _ (node_get hpt)
  have x7 := X.c7
  have hZ := X.kids
  change IsZ w ka kn (Dom.kidsAt t p) at hZ
  have hkn := hZ.1
  have hrange := Dom.placeL_range (Dom.kidsAt t p) b
  rw [hk] at hrange
  have hmem : ∀ x ∈ Dom.kidsAt t p, x < t.length := fun x hx => (hG.kid p x hx).1
  obtain ⟨x, hx⟩ : ∃ x, (Dom.kidsAt t p)[k - 1]? = some x := ⟨_, List.getElem?_eq_getElem (by omega)⟩
  have hxd : (Dom.kidsAt t p).getD (k - 1) 0 = x := by rw [List.getD_eq_getElem?_getD, hx]; rfl
  have hxt : x < t.length := hmem x (List.mem_of_getElem? hx)
  rw [hxd] at h5
  obtain ⟨b0, o0, hka, hat⟩ := hZ.2.resolve_left (by omega)
  subst hka
  have c2 := hat (k - 1) x hx
  obtain ⟨aa2, an2, ac2, ka2, kn2, kc2, Y⟩ := hR.at_ x _ (node_get hxt)
  have y0 := Y.c0
  change w.cell? ⟨g, x * 8, none⟩ = some (.int .u8 (Dom.kindAt t x)) at y0
  have d0 : decide ((0 : Int) < (k : Int)) = true := decide_eq_true (by omega)
  have d0n : decide (0 < k) = true := decide_eq_true (by omega)
  have x1 : (0 : Int) ≤ (x : Int) := by omega
  have x3 : ((x : Int)).toNat = x := by omega
  have q1 : (k : Int) - 1 = ((k - 1 : Nat) : Int) := by omega
  have q2 : k - 1 < kn := by omega
  have hfew := good_few hG p
  have q8 : k ≤ 1000000 := by omega
  have q9 : k - 1 ≤ 1000000 := by omega
  have q4 : ((k - 1 : Nat) : Int) < (kn : Int) := by omega
  have q5 : (0 : Int) ≤ (k : Int) - 1 := by omega
  have q6 : (k : Int) - 1 < (kn : Int) := by omega
  have q7 : ((k : Int) - 1).toNat = k - 1 := by omega
  rw [hxd]
  rw [h5] at y0
  have y4 := Y.c4
  have htx2 := htx x
  obtain ⟨tx, htxe⟩ : ∃ tx, (Dom.nodeAt t x).nd.text = tx := ⟨_, rfl⟩
  rw [htxe] at y4 htx2
  obtain ⟨rs3, h3'⟩ := h.drew.txt (g := g) rfl hxt s
  rw [htxe] at h3'
  have HF : Hid (Turned w (w.drew.setCell ⟨g, x * 8 + 4, none⟩ (.string (bs (tx ++ s)))) base R S (Dom.upd t x fun x => Dom.addText x s)) := hid ⟨S, ⟨_, rs3, h3'⟩, ((Turn.refl S w).drew).set _ _ (.inl (h.vS g rfl))⟩
  rw [← tw_cat] at HF
  have sz : ¬ 9223372036854775807 < (bs tx).size + (bs s).size := by
    show ¬ 9223372036854775807 < tx.toArray.size + s.toArray.size
    simp only [List.size_toArray]
    omega
  obtain ⟨cs8, hG8⟩ := own_cells h.own (g := g) rfl
  have f4 := hG8.free (x * 8 + 4)
  obtain ⟨TX, hTX⟩ : ∃ TX, bs s = TX := ⟨_, rfl⟩
  obtain ⟨TY, hTY⟩ : ∃ TY, bs tx = TY := ⟨_, rfl⟩
  rw [hTX] at HF sz e7 ⊢
  rw [hTY] at HF sz y4
  have e7' : TX.toList.isEmpty = false := e7
  have HFF := HF
  obtain ⟨n, hn⟩ : ∃ n, List.length t = n := ⟨_, rfl⟩
  rw [hn] at k1 hnc hpt hxt
  have hp3 : (p : Int) < (n : Int) := by omega
  have x2 : (x : Int) < (n : Int) := by omega
  have z1 : ((p : Int)).toNat = p := by omega
  clear hfew hR h hG h1 hk hZ hx hxd hmem X Y hat h3 h3' h5 hn hTX hTY htxe htx hG8 HF hrange hkn
  go_enter Try.func24, Try.ntmps24
  go_wp2_with fail
  refine (HA.out).mono ?_
  rintro e w1 ⟨rfl, rfl⟩
  go_wp2_with fail
  refine (HD.out).mono ?_
  rintro e w1 ⟨rfl, rfl⟩
  go_wp2
  go_region
  all_goals go_wp2
  all_goals go_ret
  all_goals exact ⟨rfl, HFF.out⟩
set_option maxHeartbeats 8000000 in
theorem rwrite_y2 (w : World) (base R : Nat) (S : Nat → Prop) (t : Dom.T) (p : Nat) (b : Int) (s : List UInt8) (k : Nat) (h : TreeX w base R S t) (hG : Dom.Good t) (hf : t.length < 1000000) (hbase : base ≤ w.heap.size)
    (h1 : Dom.holds t p) (hk : Dom.placeL (Dom.kidsAt t p) b = (k : Int)) (h3 : s ≠ []) (h4 : 0 < k) (h5 : Dom.kindAt t ((Dom.kidsAt t p).getD (k - 1) 0) ≠ 2) :
    Calls Try.prog 24 #[.pointer (some ⟨R, 0, none⟩), .int .i64 p, .int .i64 b, .string (bs s)] w fun e w' => e = .returned (.bool (Dom.putT (t ++ [⟨Dom.bareP (.mk 2 0 [] [] s []), -1, []⟩]) p b t.length).2) ∧ Turned w w' base R S (Dom.putT (t ++ [⟨Dom.bareP (.mk 2 0 [] [] s []), -1, []⟩]) p b t.length).1 := by
  have hf : t.length ≤ 1000000 := by omega
  obtain ⟨v, rs, h⟩ := h
  have HX := hid (show TreeX w base R S t from ⟨v, rs, h⟩)
  obtain ⟨g, cap, rfl, hnc, hR⟩ := h.read hG.some hf
  have HA := rholds_any w R g cap t p hR
  have p2 := h1.1.2
  have hpt : p < t.length := by omega
  have HD := rplace_any w R g cap t p b hR hpt (by have := good_few hG p; omega)
  rw [decide_eq_true h1] at HA
  have HA := hid HA
  rw [hk] at HD
  have HD := hid HD
  have e6 : decide ((k : Int) < 0) = false := decide_eq_false (by omega)
  have e7 : (bs s).toList.isEmpty = false := by
    rw [ByteArray.toList_eq]
    show s.isEmpty = false
    cases s with
    | nil => exact absurd rfl h3
    | cons c r => rfl
  have k1 := hR.top
  obtain ⟨aa, an, ac, ka, kn, kc, X⟩ := hR.at_ p _ (node_get hpt)
  have x7 := X.c7
  have hZ := X.kids
  change IsZ w ka kn (Dom.kidsAt t p) at hZ
  have hkn := hZ.1
  have hrange := Dom.placeL_range (Dom.kidsAt t p) b
  rw [hk] at hrange
  have hmem : ∀ x ∈ Dom.kidsAt t p, x < t.length := fun x hx => (hG.kid p x hx).1
  obtain ⟨x, hx⟩ : ∃ x, (Dom.kidsAt t p)[k - 1]? = some x := ⟨_, List.getElem?_eq_getElem (by omega)⟩
  have hxd : (Dom.kidsAt t p).getD (k - 1) 0 = x := by rw [List.getD_eq_getElem?_getD, hx]; rfl
  have hxt : x < t.length := hmem x (List.mem_of_getElem? hx)
  rw [hxd] at h5
  obtain ⟨b0, o0, hka, hat⟩ := hZ.2.resolve_left (by omega)
  subst hka
  have c2 := hat (k - 1) x hx
  obtain ⟨aa2, an2, ac2, ka2, kn2, kc2, Y⟩ := hR.at_ x _ (node_get hxt)
  have y0 := Y.c0
  change w.cell? ⟨g, x * 8, none⟩ = some (.int .u8 (Dom.kindAt t x)) at y0
  have d0 : decide ((0 : Int) < (k : Int)) = true := decide_eq_true (by omega)
  have d0n : decide (0 < k) = true := decide_eq_true (by omega)
  have x1 : (0 : Int) ≤ (x : Int) := by omega
  have x3 : ((x : Int)).toNat = x := by omega
  have q1 : (k : Int) - 1 = ((k - 1 : Nat) : Int) := by omega
  have q2 : k - 1 < kn := by omega
  have hfew := good_few hG p
  have q8 : k ≤ 1000000 := by omega
  have q9 : k - 1 ≤ 1000000 := by omega
  have q4 : ((k - 1 : Nat) : Int) < (kn : Int) := by omega
  have q5 : (0 : Int) ≤ (k : Int) - 1 := by omega
  have q6 : (k : Int) - 1 < (kn : Int) := by omega
  have q7 : ((k : Int) - 1).toNat = k - 1 := by omega
  have HM := hid (rmake_yes w base R S t HX.out hG hf hbase (.mk 2 0 [] [] s []) (by show ¬ (2 < 1 ∨ 3 < 2); omega) none 0 0 none 0 0 ⟨rfl, .inl rfl⟩ (fun _ => rfl) (by omega))
  have HPU := hid fun W S' (hW : TreeX W base R S' (t ++ [⟨Dom.bareP (.mk 2 0 [] [] s []), -1, []⟩])) hb => rput_any W base R S' _ p b t.length hW (Dom.good_snoc hG _ (by rw [Dom.bareP_kind]; show 1 ≤ 2 ∧ 2 ≤ 3; omega)) (by rw [List.length_append]; show _ + 1 ≤ _; omega) hb
  obtain ⟨U, hU⟩ : ∃ U, (t ++ [⟨Dom.bareP (.mk 2 0 [] [] s []), -1, []⟩] : Dom.T) = U := ⟨_, rfl⟩
  rw [hU] at HM HPU ⊢
  obtain ⟨PU, hPU⟩ : ∃ PU, Dom.putT U p b t.length = PU := ⟨_, rfl⟩
  rw [hPU] at HPU ⊢
  obtain ⟨TX, hTX⟩ : ∃ TX, bs s = TX := ⟨_, rfl⟩
  have HM2 : Hid (Calls Try.prog 13 #[.pointer (some ⟨R, 0, none⟩), .agg #[.int .u8 2, .int .u8 0, .string ⟨#[]⟩, .slice none 0 0, .string TX, .slice none 0 0]] w fun e w' => e = .returned (.int .i64 t.length) ∧ Turned w w' base R S U) := by rw [← hTX]; exact HM
  have HM := HM2
  clear HM2
  rw [hTX] at e7 ⊢
  obtain ⟨K, hK⟩ : ∃ K, Dom.kindAt t x = K := ⟨_, rfl⟩
  rw [hK] at y0 h5
  have hKb : ((K : Int) == 2) = false := by simp; omega
  obtain ⟨n, hn⟩ : ∃ n, List.length t = n := ⟨_, rfl⟩
  rw [hn] at k1 hnc hpt hxt HM HPU
  have hp3 : (p : Int) < (n : Int) := by omega
  have x2 : (x : Int) < (n : Int) := by omega
  have z1 : ((p : Int)).toNat = p := by omega
  clear hfew hR h hG h1 hk hZ hx hxd hmem X Y hat h3 h5 hn hTX hU hPU hK hrange hkn HX
  go_enter Try.func24, Try.ntmps24
  go_wp2_with fail
  refine (HA.out).mono ?_
  rintro e w1 ⟨rfl, rfl⟩
  go_wp2_with fail
  refine (HD.out).mono ?_
  rintro e w1 ⟨rfl, rfl⟩
  go_wp2_with fail
  refine (HM.out).mono ?_
  rintro e w4 ⟨rfl, S1, hX1, hT1⟩
  have HX1 := hid hX1
  have HT1 := hid hT1
  have hb1 := hT1.size
  clear hX1 hT1
  go_wp2_with fail
  refine (HPU.out _ S1 HX1.out (by omega)).mono ?_
  rintro e w5 ⟨rfl, hT5⟩
  have HT5 := hid hT5
  clear hT5
  go_wp2
  go_ret
  exact ⟨rfl, Turned.after HT1.out HT5.out⟩
set_option maxHeartbeats 8000000 in
theorem rwrite_y3 (w : World) (base R : Nat) (S : Nat → Prop) (t : Dom.T) (p : Nat) (b : Int) (s : List UInt8) (k : Nat) (h : TreeX w base R S t) (hG : Dom.Good t) (hf : t.length < 1000000) (hbase : base ≤ w.heap.size)
    (h1 : Dom.holds t p) (hk : Dom.placeL (Dom.kidsAt t p) b = (k : Int)) (h3 : s ≠ []) (h4 : k = 0) :
    Calls Try.prog 24 #[.pointer (some ⟨R, 0, none⟩), .int .i64 p, .int .i64 b, .string (bs s)] w fun e w' => e = .returned (.bool (Dom.putT (t ++ [⟨Dom.bareP (.mk 2 0 [] [] s []), -1, []⟩]) p b t.length).2) ∧ Turned w w' base R S (Dom.putT (t ++ [⟨Dom.bareP (.mk 2 0 [] [] s []), -1, []⟩]) p b t.length).1 := by
  have hf : t.length ≤ 1000000 := by omega
  obtain rfl : k = 0 := h4
  obtain ⟨v, rs, h⟩ := h
  have HX := hid (show TreeX w base R S t from ⟨v, rs, h⟩)
  obtain ⟨g, cap, rfl, hnc, hR⟩ := h.read hG.some hf
  have HA := rholds_any w R g cap t p hR
  have p2 := h1.1.2
  have hpt : p < t.length := by omega
  have HD := rplace_any w R g cap t p b hR hpt (by have := good_few hG p; omega)
  rw [decide_eq_true h1] at HA
  have HA := hid HA
  rw [hk, show ((0 : Nat) : Int) = 0 from rfl] at HD
  have HD := hid HD
  have e6 : decide ((0 : Int) < 0) = false := decide_eq_false (by omega)
  have e7 : (bs s).toList.isEmpty = false := by
    rw [ByteArray.toList_eq]
    show s.isEmpty = false
    cases s with
    | nil => exact absurd rfl h3
    | cons c r => rfl
  have k1 := hR.top
  obtain ⟨aa, an, ac, ka, kn, kc, X⟩ := hR.at_ p _ (node_get hpt)
  have x7 := X.c7
  have hZ := X.kids
  change IsZ w ka kn (Dom.kidsAt t p) at hZ
  have hkn := hZ.1
  have hrange := Dom.placeL_range (Dom.kidsAt t p) b
  have hmem : ∀ x ∈ Dom.kidsAt t p, x < t.length := fun x hx => (hG.kid p x hx).1
  have HM := hid (rmake_yes w base R S t HX.out hG hf hbase (.mk 2 0 [] [] s []) (by show ¬ (2 < 1 ∨ 3 < 2); omega) none 0 0 none 0 0 ⟨rfl, .inl rfl⟩ (fun _ => rfl) (by omega))
  have HPU := hid fun W S' (hW : TreeX W base R S' (t ++ [⟨Dom.bareP (.mk 2 0 [] [] s []), -1, []⟩])) hb => rput_any W base R S' _ p b t.length hW (Dom.good_snoc hG _ (by rw [Dom.bareP_kind]; show 1 ≤ 2 ∧ 2 ≤ 3; omega)) (by rw [List.length_append]; show _ + 1 ≤ _; omega) hb
  obtain ⟨U, hU⟩ : ∃ U, (t ++ [⟨Dom.bareP (.mk 2 0 [] [] s []), -1, []⟩] : Dom.T) = U := ⟨_, rfl⟩
  rw [hU] at HM HPU ⊢
  obtain ⟨PU, hPU⟩ : ∃ PU, Dom.putT U p b t.length = PU := ⟨_, rfl⟩
  rw [hPU] at HPU ⊢
  obtain ⟨TX, hTX⟩ : ∃ TX, bs s = TX := ⟨_, rfl⟩
  have HM2 : Hid (Calls Try.prog 13 #[.pointer (some ⟨R, 0, none⟩), .agg #[.int .u8 2, .int .u8 0, .string ⟨#[]⟩, .slice none 0 0, .string TX, .slice none 0 0]] w fun e w' => e = .returned (.int .i64 t.length) ∧ Turned w w' base R S U) := by rw [← hTX]; exact HM
  have HM := HM2
  clear HM2
  rw [hTX] at e7 ⊢
  obtain ⟨n, hn⟩ : ∃ n, List.length t = n := ⟨_, rfl⟩
  rw [hn] at HM HPU
  clear hR h hG h1 hk hZ hmem X h3 hn hTX hU hPU hrange hkn HX k1 x7 e6
  go_enter Try.func24, Try.ntmps24
  go_wp2_with fail
  refine (HA.out).mono ?_
  rintro e w1 ⟨rfl, rfl⟩
  go_wp2_with fail
  refine (HD.out).mono ?_
  rintro e w1 ⟨rfl, rfl⟩
  go_wp2_with fail
  refine (HM.out).mono ?_
  rintro e w4 ⟨rfl, S1, hX1, hT1⟩
  have HX1 := hid hX1
  have HT1 := hid hT1
  have hb1 := hT1.size
  clear hX1 hT1
  go_wp2_with fail
  refine (HPU.out _ S1 HX1.out (by omega)).mono ?_
  rintro e w5 ⟨rfl, hT5⟩
  have HT5 := hid hT5
  clear hT5
  go_wp2
  go_ret
  exact ⟨rfl, Turned.after HT1.out HT5.out⟩
/-- Write, of whatever numbers. -/
theorem rwrite_any (w : World) (base R : Nat) (S : Nat → Prop) (t : Dom.T) (p b : Int) (s : List UInt8) (h : TreeX w base R S t) (hG : Dom.Good t) (hf : t.length < 1000000) (hbase : base ≤ w.heap.size) (htx : ∀ i, (Dom.nodeAt t i).nd.text.length ≤ 4000000000) (hs : s.length ≤ 4000000000) :
    Calls Try.prog 24 #[.pointer (some ⟨R, 0, none⟩), .int .i64 p, .int .i64 b, .string (bs s)] w fun e w' => e = .returned (.bool (Dom.writeT t p b s).2) ∧ Turned w w' base R S (Dom.writeT t p b s).1 := by
  unfold Dom.writeT
  by_cases h1 : Dom.holds t p
  · by_cases h2 : Dom.placeL (Dom.kidsAt t p.toNat) b < 0
    · rw [if_pos (.inr h2)]
      exact (rwrite_n2 w base R S t p b s h hG (by omega) h1 h2).mono fun e w' ⟨e1, e2⟩ => ⟨e1, by rw [e2]; exact Turned.same h⟩
    · rw [if_neg (fun g => g.elim (fun g => g h1) h2)]
      by_cases h3 : s = []
      · rw [if_pos h3]
        exact (rwrite_n3 w base R S t p b s h hG (by omega) h1 h2 h3).mono fun e w' ⟨e1, e2⟩ => ⟨e1, by rw [e2]; exact Turned.same h⟩
      · rw [if_neg h3]
        obtain ⟨m, rfl⟩ : ∃ n : Nat, p = n := ⟨p.toNat, by have := h1.1.1; omega⟩
        rw [show ((m : Int)).toNat = m by omega] at h2 ⊢
        obtain ⟨k, hk⟩ : ∃ k : Nat, Dom.placeL (Dom.kidsAt t m) b = (k : Int) := ⟨(Dom.placeL (Dom.kidsAt t m) b).toNat, by omega⟩
        rw [hk, show ((k : Int)).toNat = k by omega]
        by_cases h4 : 0 < k ∧ Dom.kindAt t ((Dom.kidsAt t m).getD (k - 1) 0) = 2
        · rw [dif_pos h4]
          exact rwrite_y1 w base R S t m b s k h hG (by omega) hbase h1 hk h3 h4.1 h4.2 htx hs
        · rw [dif_neg h4]
          by_cases h5 : 0 < k
          · exact rwrite_y2 w base R S t m b s k h hG hf hbase h1 hk h3 h5 (fun e => h4 ⟨h5, e⟩)
          · exact rwrite_y3 w base R S t m b s k h hG hf hbase h1 hk h3 (by omega)
  · rw [if_pos (.inl h1)]
    exact (rwrite_n1 w base R S t p b s h hG (by omega) h1).mono fun e w' ⟨e1, e2⟩ => ⟨e1, by rw [e2]; exact Turned.same h⟩
end Go.Proofs.Ythbklcpjbeelhaa
