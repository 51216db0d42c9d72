/- Walks over the program's package dom: Move. -/
import Derived.Test.YthbklcpjbeelhaaLinkP
import Derived.Test.YthbklcpjbeelhaaLinkK
import Derived.Deep.LoopGhost
namespace Go.Proofs.Ythbklcpjbeelhaa
open Go.RowKit Go.Lib
set_option maxRecDepth 100000
set_option linter.unusedVariables false

/-- The tree u where the first j kids of a have come to b. -/
structure MovJ (t u : Dom.T) (a b j : Nat) : Prop where
  good : Dom.Good u
  len : u.length = t.length
  par : ∀ k, Dom.parAt u k = if k ∈ (Dom.kidsAt t a).take j then (b : Int) else Dom.parAt t k
  kids : ∀ q, Dom.kidsAt u q = if q = a then (Dom.kidsAt t a).drop j else if q = b then Dom.kidsAt t b ++ (Dom.kidsAt t a).take j else Dom.kidsAt t q
  nd : ∀ k, (Dom.nodeAt u k).nd = (Dom.nodeAt t k).nd
theorem movJ_zero {t : Dom.T} (hG : Dom.Good t) (a b : Nat) : MovJ t t a b 0 :=
  ⟨hG, rfl, fun k => by simp, fun q => by
    split
    · rename_i e; rw [e]; simp
    · split
      · rename_i e; rw [e]; simp
      · rfl, fun k => rfl⟩
theorem up_same {t u : Dom.T} {b : Nat} (h : ∀ k, Dom.Up t b k → Dom.parAt u k = Dom.parAt t k) {z y : Nat} (g : Dom.Up u z y) : Dom.Up t b z → Dom.Up t b y := by
  induction g with
  | refl x => exact fun e => e
  | step e g ih =>
    intro k
    rw [h _ k] at e
    exact ih (k.trans (.step e (.refl _)))
/-- One more comes. -/
theorem MovJ.step {t u : Dom.T} {a b j x : Nat} (h : MovJ t u a b j) (hG : Dom.Good t) (ha : a < t.length) (hb : b < t.length) (hb0 : b = 0 ∨ Dom.kindAt t b = 1) (hup : ¬ Dom.Up t b a) (hx : (Dom.kidsAt t a)[j]? = some x) :
    0 ≤ Dom.placeL (Dom.kidsAt (Dom.cutT u x).1 b) (-1) ∧ Dom.Good (Dom.cutT u x).1 ∧ (Dom.cutT u x).1.length = t.length ∧ Dom.parAt (Dom.cutT u x).1 x = -1 ∧ b ≠ x ∧ x < t.length ∧
    MovJ t (Dom.insT (Dom.cutT u x).1 b (Dom.placeL (Dom.kidsAt (Dom.cutT u x).1 b) (-1)).toNat x) a b (j + 1) := by
  have hlt : j < (Dom.kidsAt t a).length := (List.getElem?_eq_some_iff.1 hx).1
  have hm := List.mem_of_getElem? hx
  obtain ⟨hxl, hxp⟩ := hG.kid a x hm
  have hN := hG.nodup a
  have hab : a ≠ b := fun e => hup (by rw [e]; exact .refl _)
  have hbx : b ≠ x := fun e => hup (by rw [e]; exact .step hxp (.refl _))
  have hdrop : (Dom.kidsAt t a).drop j = x :: (Dom.kidsAt t a).drop (j + 1) := by
    rw [List.drop_eq_getElem_cons hlt]
    rw [(List.getElem?_eq_some_iff.1 hx).2]
  have hsplit : Dom.kidsAt t a = (Dom.kidsAt t a).take j ++ x :: (Dom.kidsAt t a).drop (j + 1) := by
    rw [← hdrop, List.take_append_drop]
  have hxt : x ∉ (Dom.kidsAt t a).take j := by
    have hd := hN
    rw [hsplit] at hd
    exact fun g => (List.nodup_append.1 hd).2.2 x g x (List.mem_cons_self ..) rfl
  have hxu : Dom.parAt u x = (a : Nat) := by
    rw [h.par, if_neg hxt]
    exact hxp
  obtain ⟨c1, c2⟩ := Dom.cut_says h.good hxu
  have C := Dom.cut_is h.good (show x < u.length by rw [h.len]; exact hxl)
  obtain ⟨g1, g2, g3, g4, g5⟩ := C
  have ckb : Dom.kidsAt (Dom.cutT u x).1 b = Dom.kidsAt t b ++ (Dom.kidsAt t a).take j := by
    rw [c2.kids, if_neg (fun e => hab e.symm), h.kids, if_neg (fun e => hab e.symm), if_pos rfl]
  have hpl : Dom.placeL (Dom.kidsAt (Dom.cutT u x).1 b) (-1) = ((Dom.kidsAt (Dom.cutT u x).1 b).length : Int) := by
    unfold Dom.placeL
    rw [if_pos rfl]
  have hul : (Dom.cutT u x).1.length = t.length := by rw [g2, h.len]
  have P := Dom.ins_says (t := (Dom.cutT u x).1) (i := x) (p := b) (Dom.placeL (Dom.kidsAt (Dom.cutT u x).1 b) (-1)).toNat (by omega) (by omega) hbx
  have hnup : ¬ Dom.Up (Dom.cutT u x).1 b x := fun g => by
    have q1 := g5 _ _ g
    have q2 := up_same (t := t) (u := u) (b := b) (fun k hk => by
      rw [h.par, if_neg]
      intro hkm
      have := (hG.kid a k (List.mem_of_mem_take hkm)).2
      exact hup (hk.trans (.step this (.refl _)))) q1 (.refl _)
    exact hup (q2.trans (.step hxp (.refl _)))
  have hkb : b = 0 ∨ Dom.kindAt (Dom.cutT u x).1 b = 1 := hb0.imp (fun e => e) fun e => by
    rw [g4]
    unfold Dom.kindAt at e ⊢
    rw [h.nd]
    exact e
  have hx0 : x ≠ 0 := fun e => by
    have := hG.root
    rw [e] at hxp
    omega
  refine ⟨by omega, g1, hul, g3, hbx, hxl, P.good g1 (by omega) (by omega) hkb hx0 g3 hnup, by rw [P.len]; exact hul, fun k => ?_, fun q => ?_, fun k => ?_⟩
  · rw [P.par, c2.par, h.par]
    have htk : (Dom.kidsAt t a).take (j + 1) = (Dom.kidsAt t a).take j ++ [x] := by
      rw [List.take_add_one, hx]; rfl
    rw [htk]
    by_cases e : k = x
    · subst e
      rw [if_pos rfl, if_pos (by simp)]
    · rw [if_neg e, if_neg e]
      by_cases e2 : k ∈ (Dom.kidsAt t a).take j
      · rw [if_pos e2, if_pos (List.mem_append_left _ e2)]
      · rw [if_neg e2, if_neg (fun q => (List.mem_append.1 q).elim e2 fun q => e (by simpa using q))]
  · have htk : (Dom.kidsAt t a).take (j + 1) = (Dom.kidsAt t a).take j ++ [x] := by
      rw [List.take_add_one, hx]; rfl
    rw [P.kids, hpl]
    by_cases e : q = b
    · subst e
      rw [if_pos rfl, if_neg (fun e => hab e.symm), if_pos rfl, htk]
      rw [show ((Dom.kidsAt (Dom.cutT u x).1 q).length : Int).toNat = (Dom.kidsAt (Dom.cutT u x).1 q).length by omega, List.take_length, List.drop_length, ckb, List.append_assoc]
    · rw [if_neg e, c2.kids]
      by_cases e2 : q = a
      · subst e2
        rw [if_pos rfl, if_pos rfl, h.kids, if_pos rfl, hdrop, List.erase_cons_head]
      · rw [if_neg e2, if_neg e2, if_neg e, h.kids, if_neg e2, if_neg e]
  · rw [P.nd, c2.nd, h.nd]
theorem tree_ext {t u : Dom.T} (hl : t.length = u.length) (hn : ∀ k, (Dom.nodeAt t k).nd = (Dom.nodeAt u k).nd) (hp : ∀ k, Dom.parAt t k = Dom.parAt u k) (hk : ∀ k, Dom.kidsAt t k = Dom.kidsAt u k) : t = u := by
  apply List.ext_getElem hl
  intro i h1 h2
  have e1 : Dom.nodeAt t i = t[i] := by unfold Dom.nodeAt; rw [List.getD_eq_getElem?_getD, List.getElem?_eq_getElem h1]; rfl
  have e2 : Dom.nodeAt u i = u[i] := by unfold Dom.nodeAt; rw [List.getD_eq_getElem?_getD, List.getElem?_eq_getElem h2]; rfl
  have a1 := hn i
  have a2 := hp i
  have a3 := hk i
  unfold Dom.parAt at a2
  unfold Dom.kidsAt at a3
  rw [e1, e2] at a1 a2 a3
  cases h3 : t[i] with
  | mk n1 p1 k1 =>
    cases h4 : u[i] with
    | mk n2 p2 k2 =>
      rw [h3, h4] at a1 a2 a3
      simp only at a1 a2 a3
      rw [a1, a2, a3]
theorem MovJ.done {t u : Dom.T} {a b j : Nat} (h : MovJ t u a b j) (hG : Dom.Good t) (ha : a < t.length) (hb : b < t.length) (hne : b ≠ a) (hj : (Dom.kidsAt t a).length ≤ j) : u = Dom.movT t a b := by
  have M := Dom.mov_says hG ha hb hne
  refine tree_ext (by rw [h.len, M.len]) (fun k => by rw [h.nd, M.nd]) (fun k => ?_) fun q => ?_
  · rw [h.par, M.par, List.take_of_length_le hj]
  · rw [h.kids, M.kids, List.take_of_length_le hj, List.drop_of_length_le hj]
    by_cases e : q = a
    · subst e
      rw [if_pos rfl, if_neg (fun e => hne e.symm), if_pos rfl]
    · rw [if_neg e, if_neg e]
open Classical in
set_option maxHeartbeats 8000000 in
theorem pmove_yes (w : World) (base R : Nat) (S : Nat → Prop) (t : Dom.T) (a b : Nat) (h : TreeK w base R S t) (hG : Dom.Good t) (hf : t.length ≤ 1000000) (ha : a < t.length) (hb : Dom.holds t b) (hk : Dom.kidsAt t a ≠ []) (hup : ¬ Dom.Up t b a) :
    Calls Try.prog 21 #[.pointer (some ⟨R, 0, none⟩), .int .i64 a, .int .i64 b] w fun e w' => e = .returned (.bool true) ∧ TurnedK w w' base R S (Dom.movT t a b) := by
  obtain ⟨n0, e0, hbl, hb0⟩ := Dom.holds_nat hb
  obtain rfl : b = n0 := by omega
  have hK := h
  have hinb := h.inb
  obtain ⟨g, cap, rs, h⟩ := h.read hG hf
  have hkT : Dom.kidsT t (a : Int) = Dom.kidsAt t a := by
    unfold Dom.kidsT
    rw [if_pos ⟨by omega, by omega⟩, show ((a : Int)).toNat = a by omega]
  have HKD := pkids_any w base R g cap S rs t (a : Int) h hG
  rw [hkT] at HKD
  have HKD := hid HKD
  have HTK := hid fun W (hW : Below w.heap.size w W) => (by
    have q := ptakes_any W base R g cap S rs t (b : Int) (-1) ⟨h.tree.below hW, h.mod, h.ne, h.few⟩
    rw [decide_eq_true (show Takes t (b : Int) (-1) from ⟨hb, .inl rfl⟩)] at q
    exact q)
  have HWI := hid fun W (hW : Below w.heap.size w W) => (by
    have q := pwithin_any W base R g cap S rs t b a ⟨h.tree.below hW, h.mod, h.ne, h.few⟩ hG hbl ha
    rw [decide_eq_false hup] at q
    exact q)
  have hfew := Nat.le_trans (good_few hG a) hf
  have HKB := hid fun W (hW : Below w.heap.size w W) => hK.below hW
  obtain ⟨L, hL⟩ : ∃ L, Dom.kidsAt t a = L := ⟨_, rfl⟩
  have HSTEP := hid fun (u : Dom.T) (j x : Nat) (hJ : MovJ t u a b j) (hx : L[j]? = some x) => hJ.step hG ha hbl hb0 hup (by rw [hL]; exact hx)
  have HDONE := hid fun (u : Dom.T) (j : Nat) (hJ : MovJ t u a b j) (hj : L.length ≤ j) => hJ.done hG ha hbl (fun e => hup (by rw [e]; exact .refl _)) (by rw [hL]; exact hj)
  have HZERO := hid (movJ_zero hG a b)
  rw [hL] at HKD hk hfew
  have hl0 := List.length_pos_iff.2 hk
  obtain ⟨kn, hkn⟩ : ∃ kn, L.length = kn := ⟨_, rfl⟩
  have HLN := hid hkn
  have HF := hid hf
  have HINB := hid hinb
  rw [hkn] at hl0 hfew
  have dl : ((kn : Int) == 0) = false := by simp; omega
  generalize Dom.movT t a b = RES at *
  unfold NewZO at HKD
  rw [hkn] at HKD
  clear h hK hG hf ha hb hk hup hL hkT hkn hinb e0 hb0
  go_enter Try.func21, Try.ntmps21
  go_wp2_with fail
  refine (HKD.out).mono ?_
  rintro e w1 ⟨⟨za, zc, rfl, hz, hzb, _⟩, b1⟩
  have HZ := hid hz
  have HZB := hid hzb
  have HB1 := hid b1
  clear hz hzb b1
  go_wp2_with fail
  refine (HTK.out _ HB1.out).mono ?_
  rintro e w2 ⟨rfl, rfl⟩
  go_wp2_with fail
  refine (HWI.out _ HB1.out).mono ?_
  rintro e w3 ⟨rfl, b3⟩
  have HB3 := hid (HB1.out.trans (b3.mono HB1.out.size))
  have HZ3 := hid (HZ.out.below b3)
  have HLT := hid (show ∀ x, za = some x → x.block < w2.heap.size ∨ kn = 0 from fun x e => by
    rcases HZ.out.2 with q | ⟨bb, off, q, hat⟩
    · exact .inr q
    · left
      obtain ⟨y, hy⟩ : ∃ y, L[0]? = some y := ⟨_, List.getElem?_eq_getElem (by have := HLN.out; omega)⟩
      have := hat 0 y hy
      rw [q] at e
      obtain rfl := Option.some.inj e
      apply Decidable.byContradiction
      intro hge
      simp [World.cell?, Array.getElem?_eq_none (Nat.not_lt.1 hge)] at this)
  have HSZ := hid b3.size
  clear b3
  go_wp2
  go_loopg [30] kn (fun gg iv wr => ∃ (j : Nat), j + gg = kn ∧ iv = .int .i64 j ∧ Hid (∃ u S', MovJ t u a b j ∧ TreeK wr base R S' u ∧ Turn S S' w3 wr))
  case atStart => exact ⟨0, by omega, rfl, hid ⟨t, S, HZERO.out, HKB.out _ HB3.out, Turn.refl _ _⟩⟩
  case round =>
    obtain ⟨j, hj, rfl, hI⟩ := hrel
    by_cases hlt : j < kn
    · have d1 : decide (j < kn) = true := decide_eq_true hlt
      have hltI : (j : Int) < (kn : Int) := by omega
      obtain ⟨x, hx⟩ : ∃ x, L[j]? = some x := ⟨_, List.getElem?_eq_getElem (by have := HLN.out; omega)⟩
      obtain ⟨u, S1, hJ, hT1, hTu⟩ := hI.out
      obtain ⟨bz, oz, rfl, hat⟩ := HZ3.out.2.resolve_left (by omega)
      have hbz := HZB.out _ rfl
      have hbz2 := (HLT.out _ rfl).resolve_right (by omega)
      simp only at hbz hbz2
      have hsz3 := HSZ.out
      have cz : wr.cell? ⟨bz, oz + j, none⟩ = some (.int .i64 (x : Nat)) := (World.cell?_of_block (a := ⟨bz, oz + j, none⟩) (hTu.block bz (by omega) (fun e => by have := (HINB.out bz e).2; omega))).trans (hat j x hx)
      obtain ⟨s1, s2, s3, s4, s5, s6, s7⟩ := HSTEP.out u j x hJ hx
      have hul := hJ.len
      have HC := hid (pcut_any wr base R S1 u (x : Int) hT1 hJ.good (by rw [hul]; exact HF.out))
      have HP := hid fun (w5 : World) S5 (hK5 : TreeK w5 base R S5 (Dom.cutT u x).1) => pins_any w5 base R S5 (Dom.cutT u x).1 hK5 s2 (by rw [s3]; exact HF.out) b x (-1) (by rw [s3]; exact hbl) (by rw [s3]; exact s6) s5 s4 s1
      have HJ7 := hid s7
      have HTu := hid hTu
      generalize Dom.insT (Dom.cutT u x).1 b (Dom.placeL (Dom.kidsAt (Dom.cutT u x).1 b) (-1)).toNat x = U2 at *
      have j1 : (0 : Int) ≤ (j : Int) := by omega
      have j3 : ((j : Int)).toNat = j := by omega
      clear hJ hT1 hTu hat hI s1 s2 s3 s4 s5 s6 s7 hx hul
      go_wp2_with fail
      refine (HC.out).mono ?_
      rintro e w5 ⟨rfl, S5, hK5, hT5⟩
      have HT5 := hid (HTu.out.trans hT5)
      have HP5 := hid (HP.out w5 S5 hK5)
      clear hK5 hT5
      go_wp2_with fail
      refine (HP5.out).mono ?_
      rintro e w6 ⟨rfl, S6, hK6, hT6⟩
      have HI := hid (show ∃ u S', MovJ t u a b (j + 1) ∧ TreeK w6 base R S' u ∧ Turn S S' w3 w6 from ⟨U2, S6, HJ7.out, hK6, HT5.out.trans hT6⟩)
      clear hK6 hT6
      go_wp2
      go_roundg (kn - (j + 1))
      case measure => omega
      case rel => exact ⟨j + 1, by omega, by go_num, HI⟩
    · have d1 : decide (j < kn) = false := decide_eq_false hlt
      obtain ⟨u, S1, hJ, hT1, hTu⟩ := hI.out
      have hR := HDONE.out u j hJ (by have := HLN.out; omega)
      have HR := hid (show TurnedK w wr base R S RES from ⟨S1, by rw [← hR]; exact hT1, (Turn.of_below HB3.out).trans hTu⟩)
      clear hJ hT1 hTu hR hI
      go_wp2
      go_ret
      exact ⟨rfl, HR.out⟩
set_option maxHeartbeats 4000000 in
theorem pmove_nil (w : World) (base R : Nat) (S : Nat → Prop) (t : Dom.T) (a b : Int) (h : TreeK w base R S t) (hG : Dom.Good t) (hf : t.length ≤ 1000000) (hk : Dom.kidsT t a = []) :
    Calls Try.prog 21 #[.pointer (some ⟨R, 0, none⟩), .int .i64 a, .int .i64 b] w fun e w' => e = .returned (.bool false) ∧ Below w.heap.size w w' := by
  obtain ⟨g, cap, rs, h⟩ := h.read hG hf
  have HKD := pkids_any w base R g cap S rs t a h hG
  rw [hk] at HKD
  have HKD := hid HKD
  unfold NewZO at HKD
  rw [List.length_nil] at HKD
  clear h hG hf hk
  go_enter Try.func21, Try.ntmps21
  go_wp2_with fail
  refine (HKD.out).mono ?_
  rintro e w1 ⟨⟨za, zc, rfl, _⟩, b1⟩
  have HB1 := hid b1
  clear b1
  go_wp2
  go_ret
  exact ⟨rfl, HB1.out⟩
set_option maxHeartbeats 4000000 in
theorem pmove_not (w : World) (base R : Nat) (S : Nat → Prop) (t : Dom.T) (a b : Int) (h : TreeK w base R S t) (hG : Dom.Good t) (hf : t.length ≤ 1000000) (hk : Dom.kidsT t a ≠ []) (hb : ¬ Dom.holds t b) :
    Calls Try.prog 21 #[.pointer (some ⟨R, 0, none⟩), .int .i64 a, .int .i64 b] w fun e w' => e = .returned (.bool false) ∧ Below w.heap.size w w' := by
  obtain ⟨g, cap, rs, h⟩ := h.read hG hf
  have HKD := hid (pkids_any w base R g cap S rs t a h hG)
  have HTK := hid fun W (hW : Below w.heap.size w W) => (by
    have q := ptakes_any W base R g cap S rs t b (-1) ⟨h.tree.below hW, h.mod, h.ne, h.few⟩
    rw [decide_eq_false (show ¬ Takes t b (-1) from fun q => hb q.1)] at q
    exact q)
  unfold NewZO at HKD
  have hl0 := List.length_pos_iff.2 hk
  obtain ⟨kn, hkn⟩ : ∃ kn, (Dom.kidsT t a).length = kn := ⟨_, rfl⟩
  rw [hkn] at HKD hl0
  have dl : ((kn : Int) == 0) = false := by simp; omega
  clear h hG hf hk hb hkn
  go_enter Try.func21, Try.ntmps21
  go_wp2_with fail
  refine (HKD.out).mono ?_
  rintro e w1 ⟨⟨za, zc, rfl, _⟩, b1⟩
  have HB1 := hid b1
  clear b1
  go_wp2_with fail
  refine (HTK.out _ HB1.out).mono ?_
  rintro e w2 ⟨rfl, rfl⟩
  go_wp2
  go_ret
  exact ⟨rfl, HB1.out⟩
open Classical in
set_option maxHeartbeats 4000000 in
theorem pmove_up (w : World) (base R : Nat) (S : Nat → Prop) (t : Dom.T) (a b : Nat) (h : TreeK w base R S t) (hG : Dom.Good t) (hf : t.length ≤ 1000000) (ha : a < t.length) (hb : Dom.holds t b) (hk : Dom.kidsT t a ≠ []) (hup : Dom.Up t b a) :
    Calls Try.prog 21 #[.pointer (some ⟨R, 0, none⟩), .int .i64 a, .int .i64 b] w fun e w' => e = .returned (.bool false) ∧ Below w.heap.size w w' := by
  obtain ⟨n0, e0, hbl, hb0⟩ := Dom.holds_nat hb
  obtain rfl : b = n0 := by omega
  obtain ⟨g, cap, rs, h⟩ := h.read hG hf
  have HKD := hid (pkids_any w base R g cap S rs t (a : Int) h hG)
  have HTK := hid fun W (hW : Below w.heap.size w W) => (by
    have q := ptakes_any W base R g cap S rs t (b : Int) (-1) ⟨h.tree.below hW, h.mod, h.ne, h.few⟩
    rw [decide_eq_true (show Takes t (b : Int) (-1) from ⟨hb, .inl rfl⟩)] at q
    exact q)
  have HWI := hid fun W (hW : Below w.heap.size w W) => (by
    have q := pwithin_any W base R g cap S rs t b a ⟨h.tree.below hW, h.mod, h.ne, h.few⟩ hG hbl ha
    rw [decide_eq_true hup] at q
    exact q)
  unfold NewZO at HKD
  have hl0 := List.length_pos_iff.2 hk
  obtain ⟨kn, hkn⟩ : ∃ kn, (Dom.kidsT t (a : Int)).length = kn := ⟨_, rfl⟩
  rw [hkn] at HKD hl0
  have dl : ((kn : Int) == 0) = false := by simp; omega
  clear h hG hf hk hb hkn ha hup e0 hb0
  go_enter Try.func21, Try.ntmps21
  go_wp2_with fail
  refine (HKD.out).mono ?_
  rintro e w1 ⟨⟨za, zc, rfl, _⟩, b1⟩
  have HB1 := hid b1
  clear b1
  go_wp2_with fail
  refine (HTK.out _ HB1.out).mono ?_
  rintro e w2 ⟨rfl, rfl⟩
  go_wp2_with fail
  refine (HWI.out _ HB1.out).mono ?_
  rintro e w3 ⟨rfl, b3⟩
  have HB3 := hid (HB1.out.trans (b3.mono HB1.out.size))
  clear b3
  go_wp2
  go_ret
  exact ⟨rfl, HB3.out⟩
/-- Move, of whatever numbers. -/
theorem pmove_any (w : World) (base R : Nat) (S : Nat → Prop) (t : Dom.T) (a b : Int) (h : TreeK w base R S t) (hG : Dom.Good t) (hf : t.length ≤ 1000000) :
    Calls Try.prog 21 #[.pointer (some ⟨R, 0, none⟩), .int .i64 a, .int .i64 b] w fun e w' => e = .returned (.bool (Dom.moveT t a b).2) ∧ TurnedK w w' base R S (Dom.moveT t a b).1 := by
  by_cases hk : Dom.kidsT t a = []
  · have e : Dom.moveT t a b = (t, false) := by
      unfold Dom.moveT
      rw [if_pos]
      unfold Dom.kidsT at hk
      split at hk
      · exact .inr (.inr (.inl hk))
      · rename_i g; exact .inl g
    rw [e]
    exact (pmove_nil w base R S t a b h hG hf hk).mono fun e w' ⟨h1, h2⟩ => ⟨h1, TurnedK.same h h2⟩
  · have hth : Dom.there t a := Classical.byContradiction fun g => hk (by unfold Dom.kidsT; rw [if_neg g])
    obtain ⟨m, rfl⟩ : ∃ m : Nat, a = m := ⟨a.toNat, by have := hth.1; omega⟩
    have hm : m < t.length := by have := hth.2; omega
    have hkm : Dom.kidsAt t m ≠ [] := fun q => hk (by unfold Dom.kidsT; rw [if_pos hth, show ((m : Int)).toNat = m by omega]; exact q)
    by_cases hb : Dom.holds t b
    · obtain ⟨n, rfl, hn, _⟩ := Dom.holds_nat hb
      by_cases hup : Dom.Up t n m
      · have e : Dom.moveT t (m : Int) (n : Int) = (t, false) := by
          unfold Dom.moveT
          rw [if_pos]
          rw [show ((n : Int)).toNat = n by omega, show ((m : Int)).toNat = m by omega]
          exact .inr (.inr (.inr hup))
        rw [e]
        exact (pmove_up w base R S t m n h hG hf hm hb hk hup).mono fun e w' ⟨h1, h2⟩ => ⟨h1, TurnedK.same h h2⟩
      · have e : Dom.moveT t (m : Int) (n : Int) = (Dom.movT t m n, true) := by
          unfold Dom.moveT
          rw [if_neg]
          · rw [show ((n : Int)).toNat = n by omega, show ((m : Int)).toNat = m by omega]
            rfl
          · rw [show ((n : Int)).toNat = n by omega, show ((m : Int)).toNat = m by omega]
            rintro (q | q | q | q)
            · exact q hth
            · exact q hb
            · exact hkm q
            · exact hup q
        rw [e]
        exact pmove_yes w base R S t m n h hG hf hm hb hkm hup
    · have e : Dom.moveT t (m : Int) b = (t, false) := by
        unfold Dom.moveT
        rw [if_pos]
        exact .inr (.inl hb)
      rw [e]
      exact (pmove_not w base R S t m b h hG hf hk hb).mono fun e w' ⟨h1, h2⟩ => ⟨h1, TurnedK.same h h2⟩
end Go.Proofs.Ythbklcpjbeelhaa
