/- Walks over the program's package dom: Make. -/
import Derived.Test.YtlgmjnnfndedbaaLinkD
namespace Go.Proofs.Ytlgmjnnfndedbaa
open Go.RowKit Go.Lib
set_option maxRecDepth 100000
set_option linter.unusedVariables false

theorem models_snoc {rs : List PR} {t : Dom.T} (hm : Models rs t) (hG : Dom.Good t) {r : PR} {y : Dom.N} (hn : r.nd = y) (hl : r.lk = Dom.Lk.none) : Models (rs ++ [r]) (t ++ [⟨y, -1, []⟩]) := by
  refine ⟨by simp [hm.len], fun i ri hri => ?_, ?_⟩
  · rw [Dom.nodeAt_snoc]
    by_cases hi : i < rs.length
    · rw [List.getElem?_append_left hi] at hri
      rw [if_neg (by have := hm.len; omega)]
      exact hm.nds i ri hri
    · rw [List.getElem?_append_right (by omega)] at hri
      have e0 : i - rs.length = 0 := by
        have := (List.getElem?_eq_some_iff.1 hri).1
        simp at this
        omega
      rw [e0] at hri
      injection hri with hri
      subst hri
      rw [if_pos (by have := hm.len; omega)]
      exact hn
  · refine hm.lks.snoc hG (fun k hk => ?_) ?_ y
    · unfold lkOf
      rw [List.getElem?_append_left (by rw [hm.len]; exact hk)]
    · unfold lkOf
      rw [← hm.len, List.getElem?_append_right (Nat.le_refl _), Nat.sub_self]
      exact hl
theorem Turn.of_wide {S Q S' : Nat → Prop} {w w5 w6 : World} (hb : Below w.heap.size w w5) (hT : Turn (fun k => S k ∨ Q k) S' w5 w6) (hQ : ∀ k, Q k → w.heap.size ≤ k) : Turn S S' w w6 :=
  ⟨hT.os.trans hb.os, hT.tape.trans hb.tape, hT.output.trans hb.output, Nat.le_trans hb.size hT.size, fun k hk hn => (hT.block k (by have := hb.size; omega) (by rintro (e | e); exact hn e; have := hQ k e; omega)).trans (hb.block k hk), fun k hk => by
    rcases hT.sub k hk with (e | e) | e
    · exact .inl e
    · exact .inr (hQ k e)
    · exact .inr (Nat.le_trans hb.size e)⟩
theorem BlkW.turned {w w' : World} {H : Nat} {cs : Array Value} {T : TypeId} {Q S' : Nat → Prop} (h : BlkW w H cs T) (hT : Turn Q S' w w') (hn : ¬ Q H) : BlkW w' H cs T := (hT.block H h.lt hn).trans h
theorem cost_short {x : Dom.N} (h : Dom.cost x ≤ 500000) : ShortA x.atts ∧ x.name.length ≤ 281474976710656 ∧ x.atts.length ≤ 1000000 ∧ x.text.length ≤ 8000000 := by
  have h1 := Dom.sumA_len x.atts
  unfold Dom.cost at h
  refine ⟨fun z hz => ?_, by omega, by omega, by omega⟩
  have := Dom.sumA_mem hz
  omega
theorem node_cells {W : World} {H : Nat} {a0 a1 a2 a3 a4 a5 : Value} {T : TypeId} (h : BlkW W H #[a0, a1, a2, a3, a4, a5] T) : W.cell? ⟨H, 0, none⟩ = some a0 ∧ W.cell? ⟨H, 1, none⟩ = some a1 ∧ W.cell? ⟨H, 2, none⟩ = some a2 ∧ W.cell? ⟨H, 3, none⟩ = some a3 ∧ W.cell? ⟨H, 4, none⟩ = some a4 :=
  ⟨h.cell 0, h.cell 1, h.cell 2, h.cell 3, h.cell 4⟩
set_option maxHeartbeats 600000 in
theorem pmake_elem (w : World) (base R : Nat) (S : Nat → Prop) (t : Dom.T) (h : TreeK w base R S t) (hG : Dom.Good t) (hf : t.length ≤ 1000000) (hbase : base ≤ w.heap.size)
    (x : Dom.N) (hk : x.kind = 1) (aa : Option Addr) (an ac : Nat) (ka : Option Addr) (kn kc : Nat) (hA : IsA w aa an x.atts) (hcost : Dom.cost x ≤ 500000) :
    Calls Try.prog 60 #[.pointer (some ⟨R, 0, none⟩), .agg #[.int .u8 x.kind, .int .u8 x.space, .string (bs x.name), .slice aa an ac, .string (bs x.text), .slice ka kn kc]] w fun e w' => e = .returned (.int .i64 t.length) ∧ TurnedK w w' base R S (t ++ [⟨Dom.bareP x, -1, []⟩]) := by
  obtain ⟨v, rs, h, hm⟩ := h
  obtain ⟨hs, hsn, han, _⟩ := cost_short hcost
  have hal := hA.1
  have hy : Dom.bareP x = .mk 1 x.space x.name x.atts [] [] := by unfold Dom.bareP; rw [if_pos hk, hk]
  rw [hk, hy]
  have hinb := h.inb
  have hlen := hm.len
  -- the call of add, whatever came of the two copies
  have HADD := hid fun (W : World) (a5 : Option Addr) (c5 : Nat) (hW : Below w.heap.size w W) (hs1 : w.heap.size + 1 ≤ W.heap.size) (own : W.ownsRow (w.heap.size + 1) 91 2 (.slice a5 x.atts.length c5) x.atts.length (pairL x.atts)) =>
    (show Calls Try.prog 59 #[.pointer (some ⟨R, 0, none⟩), .agg #[.int .u8 1, .int .u8 x.space, .string (bs x.name), .slice a5 x.atts.length c5, .slice none 0 0, .int .i64 0, .int .i64 0, .int .i64 0, .int .i64 0, .int .i64 0]] W fun e w' =>
        e = .returned (.int .i64 t.length) ∧ TurnedK w w' base R S (t ++ [⟨.mk 1 x.space x.name x.atts [] [], -1, []⟩]) ∧ (∀ k, k = w.heap.size → k < W.heap.size → w'.heap[k]? = W.heap[k]?) from by
      obtain ⟨a6, c6, e6, hI, _, _, hge, hx⟩ := own_isT' own
      injection e6 with e6 _ e7
      subst e6
      subst e7
      have hty := own_typ own
      refine (padd_any W base R S (fun k => w.heap.size + 1 ≤ k ∧ k < W.heap.size) v rs ⟨.mk 1 x.space x.name x.atts [] [], a5, x.atts.length, c5, .slice none 0 0, Dom.Lk.none⟩ 0 0 0 0 0 (h.below hW) (by rw [hlen]; exact hf) (Nat.le_trans hbase hW.size)
        ⟨hI, hty, fun p hp => ⟨hge p hp, hty.lt p hp⟩, hx, OwnM.nil _ _, fun g e => by cases e⟩ (fun k hk => ⟨by omega, hk.2⟩) (fun i ri hri g hg e => by cases e) rfl rfl).mono ?_
      rintro e w' ⟨rfl, S', v', hT, hTu⟩
      refine ⟨by rw [hlen], ⟨S', ⟨v', _, hT, models_snoc hm hG rfl rfl⟩, Turn.of_wide hW hTu fun k hk => by omega⟩, fun k e hk => hTu.block k hk ?_⟩
      rintro (q | q)
      · have := (hinb k q).2; omega
      · omega)
  generalize t ++ [(⟨Dom.N.mk 1 x.space x.name x.atts [] [], -1, []⟩ : Dom.TN)] = T2 at *
  have HA := hid fun W (hW : Below w.heap.size w W) => pcloned_any W aa an ac x.atts (hA.below hW) (by omega) hs
  have HCL := hid fun W => tclone (bs x.name) W (by rw [bs_len]; exact hsn)
  obtain ⟨NM, hNM⟩ : ∃ NM, bs x.name = NM := ⟨_, rfl⟩
  obtain ⟨TX, hTX⟩ : ∃ TX, bs x.text = TX := ⟨_, rfl⟩
  obtain ⟨SP, hSP⟩ : ∃ SP, x.space = SP := ⟨_, rfl⟩
  obtain ⟨ats, hat⟩ : ∃ ats, x.atts = ats := ⟨_, rfl⟩
  rw [hNM, hSP, hat] at HADD
  rw [hNM] at HCL
  rw [hat] at HA
  rw [hNM, hTX, hSP]
  have N1 := BlkW.new w #[.int .u8 1, .int .u8 SP, .string NM, .slice aa an ac, .string TX, .slice ka kn kc] 61
  have L1 := (Below.refl w.heap.size w).alloc (Nat.le_refl _) (.cells #[.int .u8 1, .int .u8 SP, .string NM, .slice aa an ac, .string TX, .slice ka kn kc] 61)
  have s1 : w.heap.size + 1 = (w.alloc (.cells #[.int .u8 1, .int .u8 SP, .string NM, .slice aa an ac, .string TX, .slice ka kn kc] 61)).heap.size := (World.size_alloc _ _).symm
  have n0 := N1.cell 0
  simp only [List.getElem?_toArray, List.getElem?_cons_zero] at n0
  clear h hm hs hsn han hal hy hk hinb hlen hNM hTX hSP hat hA hG hf hbase hcost
  go_enter Try.func60, Try.ntmps60
  go_wp2_with fail
  obtain ⟨W1, hW1⟩ : ∃ W1, w.alloc (.cells #[.int .u8 1, .int .u8 SP, .string NM, .slice aa an ac, .string TX, .slice ka kn kc] 61) = W1 := ⟨_, rfl⟩
  rw [hW1] at N1 L1 s1 ⊢
  clear hW1 n0
  have E1 := L1.drew
  have E0 := L1
  have e0 : Below W1.heap.size W1 W1.drew := (Below.refl _ W1).drew
  have hs1 : w.heap.size < W1.heap.size := N1.lt
  have HP := hid N1
  have HS1 := hid s1
  have HS2 := hid hs1
  have HO := hid True.intro
  have SG := hid (node_cells N1)
  have SF := hid (node_cells (show BlkW W1.drew w.heap.size _ _ from N1))
  clear N1 L1 s1 hs1
  go_region_held3 (fun w' => w'.cell? ⟨w.heap.size, 0, none⟩ = some (.int .u8 1) ∧ w'.cell? ⟨w.heap.size, 1, none⟩ = some (.int .u8 SP) ∧ w'.cell? ⟨w.heap.size, 2, none⟩ = some (.string NM) ∧ w'.cell? ⟨w.heap.size, 3, none⟩ = some (.slice aa an ac) ∧ w'.cell? ⟨w.heap.size, 4, none⟩ = some (.string TX)) (first | with_reducible exact SZ.out | with_reducible exact SF.out | with_reducible exact SG.out)
    (first
      | (go_at_call 34; (with_reducible refine (HCL.out _).mono ?_); rintro e w5 ⟨rfl, b5⟩; replace E1 := E1.trans (b5.mono E1.size); replace e0 := e0.trans (b5.mono e0.size); have SF := hid (node_cells (HP.out.below e0 HS2.out)); (first | (have HO := hid (own_below HO.out b5)) | skip); clear b5)
      | (go_at_call 81; (with_reducible refine (HA.out _ E1).mono ?_); rintro e w5 ⟨v5, rfl, own5, b5⟩; obtain ⟨a5, c5, hv5, _⟩ := own_isT' own5; subst hv5; have HO := hid (own_wide (base' := w.heap.size + 1) own5 (Nat.le_trans (Nat.le_of_eq HS1.out) e0.size)); replace E1 := E1.trans (b5.mono E1.size); replace e0 := e0.trans (b5.mono e0.size); have SF := hid (node_cells (HP.out.below e0 HS2.out)); clear b5 own5)
      | (go_at_call 59; (with_reducible refine (HADD.out _ a5 c5 E1 (Nat.le_trans (Nat.le_of_eq HS1.out) e0.size) HO.out).mono ?_); rintro e w6 ⟨rfl, hT6, hk6⟩; have HR := hid hT6; have SZ := hid (node_cells (show BlkW w6 w.heap.size _ _ from (hk6 _ rfl (Nat.lt_of_lt_of_le HS2.out e0.size)).trans (HP.out.below e0 HS2.out))); clear hT6 hk6))
  all_goals go_wp2
  all_goals go_ret
  all_goals exact ⟨rfl, HR.out⟩
theorem drew_alloc (w : World) (o : Obj) : w.drew.alloc o = (w.alloc o).drew := rfl
set_option maxHeartbeats 600000 in
theorem pmake_text (w : World) (base R : Nat) (S : Nat → Prop) (t : Dom.T) (h : TreeK w base R S t) (hG : Dom.Good t) (hf : t.length ≤ 1000000) (hbase : base ≤ w.heap.size)
    (x : Dom.N) (hk : x.kind = 2 ∨ x.kind = 3) (aa : Option Addr) (an ac : Nat) (ka : Option Addr) (kn kc : Nat) (hst : x.text.length ≤ 8000000) :
    Calls Try.prog 60 #[.pointer (some ⟨R, 0, none⟩), .agg #[.int .u8 x.kind, .int .u8 x.space, .string (bs x.name), .slice aa an ac, .string (bs x.text), .slice ka kn kc]] w fun e w' => e = .returned (.int .i64 t.length) ∧ TurnedK w w' base R S (t ++ [⟨Dom.bareP x, -1, []⟩]) := by
  obtain ⟨v, rs, h, hm⟩ := h
  have hy : Dom.bareP x = .mk x.kind 0 [] [] x.text [] := by unfold Dom.bareP; rw [if_neg (by omega)]
  rw [hy]
  have hinb := h.inb
  have hlen := hm.len
  have hbl := bs_len x.text
  -- the call of add, whatever room the bytes were given
  have HADD := hid fun (W : World) (c : Nat) (kk : Int) (hkk : kk = x.kind) (hW : Below w.heap.size w W) (hc : x.text.length ≤ c) (hm2 : c ≤ maxLen) =>
    (show Calls Try.prog 59 #[.pointer (some ⟨R, 0, none⟩), .agg #[.int .u8 kk, .int .u8 0, .string ⟨#[]⟩, .slice none 0 0, .slice (some ⟨W.heap.size, 0, none⟩) (bs x.text).size c, .int .i64 0, .int .i64 0, .int .i64 0, .int .i64 0, .int .i64 0]] (W.drew.alloc (.cells (bytesRow (bs x.text) c) 5 ((bytesRow (bs x.text) c).size, (bytesRow (bs x.text) c).size + 1))) fun e w' =>
        e = .returned (.int .i64 t.length) ∧ TurnedK w w' base R S (t ++ [⟨.mk x.kind 0 [] [] x.text [], -1, []⟩]) from by
      subst hkk
      have hO := OwnM.made W (bs x.text) c (by rw [hbl]; exact hc) hm2
      have hl : (bs x.text).data.toList = x.text := by simp [bs]
      rw [hl] at hO
      have hB := hW.drew.alloc hW.size (.cells (bytesRow (bs x.text) c) 5 ((bytesRow (bs x.text) c).size, (bytesRow (bs x.text) c).size + 1))
      obtain ⟨W2, hW2⟩ : ∃ W2, W.drew.alloc (.cells (bytesRow (bs x.text) c) 5 ((bytesRow (bs x.text) c).size, (bytesRow (bs x.text) c).size + 1)) = W2 := ⟨_, rfl⟩
      rw [hW2] at hO hB ⊢
      have hsW := hW.size
      refine (padd_any W2 base R S (fun k => W.heap.size ≤ k ∧ k < W2.heap.size) v rs ⟨.mk x.kind 0 [] [] x.text [], none, 0, 0, .slice (some ⟨W.heap.size, 0, none⟩) (bs x.text).size c, Dom.Lk.none⟩ 0 0 0 0 0 (h.below hB) (by rw [hlen]; exact hf) (Nat.le_trans hbase hB.size)
        ⟨⟨rfl, .inl rfl⟩, (fun p e => by cases e), (fun p e => by cases e), fun _ => rfl, hO.wide (by omega), fun g e => hO.lt e⟩ (fun k hk => ⟨by omega, hk.2⟩) (fun i ri hri g hg e => ?_) rfl rfl).mono ?_
      · have h1 := hinb g ((h.fits i ri hri).tS g hg)
        have h2 := hO.lt e
        omega
      rintro e w' ⟨rfl, S', v', hT, hTu⟩
      exact ⟨by rw [hlen], ⟨S', ⟨v', _, hT, models_snoc hm hG rfl rfl⟩, Turn.of_wide hB hTu fun k hk => by omega⟩⟩)
  generalize t ++ [(⟨Dom.N.mk x.kind 0 [] [] x.text [], -1, []⟩ : Dom.TN)] = T2 at *
  obtain ⟨NM, hNM⟩ : ∃ NM, bs x.name = NM := ⟨_, rfl⟩
  obtain ⟨TX, hTX⟩ : ∃ TX, bs x.text = TX := ⟨_, rfl⟩
  obtain ⟨SP, hSP⟩ : ∃ SP, x.space = SP := ⟨_, rfl⟩
  obtain ⟨K, hK⟩ : ∃ K, x.kind = K := ⟨_, rfl⟩
  rw [hTX] at hbl
  rw [hTX, hK] at HADD
  rw [hNM, hTX, hSP, hK]
  rw [hK] at hk
  have HBL := hid hbl
  clear h hm hy hinb hlen hNM hTX hSP hK hG hf hbase
  rcases hk with rfl | rfl
  · have L1 := (Below.refl w.heap.size w).alloc (Nat.le_refl _) (.cells #[.int .u8 2, .int .u8 SP, .string NM, .slice aa an ac, .string TX, .slice ka kn kc] 61)
    have hcb := run_bytes_of_string (P := Try.prog) (w.alloc (.cells #[.int .u8 2, .int .u8 SP, .string NM, .slice aa an ac, .string TX, .slice ka kn kc] 61)) 9 84 5 TX Try.underlying9 Try.underlying84 Try.underlying5
    have hc1 := grownCap_ge (w.alloc (.cells #[.int .u8 2, .int .u8 SP, .string NM, .slice aa an ac, .string TX, .slice ka kn kc] 61)) TX.size 0 5
    have hc2 := grownCap_le_maxLen (w.alloc (.cells #[.int .u8 2, .int .u8 SP, .string NM, .slice aa an ac, .string TX, .slice ka kn kc] 61)) TX.size 0 5 (by unfold maxLen; omega)
    generalize grownCap (w.alloc (.cells #[.int .u8 2, .int .u8 SP, .string NM, .slice aa an ac, .string TX, .slice ka kn kc] 61)) TX.size 0 5 = c at *
    have HCALL := HADD.out _ c 2 rfl L1 (by omega) hc2
    rw [drew_alloc, World.size_alloc, hbl] at HCALL
    have HCALL := hid HCALL
    clear HADD L1 hc1 hc2
    go_enter Try.func60, Try.ntmps60
    go_wp2_with fail
    refine (HCALL.out).mono ?_
    rintro e w6 ⟨rfl, hT6⟩
    have HR := hid hT6
    clear hT6
    go_wp2
    go_ret
    exact ⟨rfl, HR.out⟩
  · have L1 := (Below.refl w.heap.size w).alloc (Nat.le_refl _) (.cells #[.int .u8 3, .int .u8 SP, .string NM, .slice aa an ac, .string TX, .slice ka kn kc] 61)
    have hcb := run_bytes_of_string (P := Try.prog) (w.alloc (.cells #[.int .u8 3, .int .u8 SP, .string NM, .slice aa an ac, .string TX, .slice ka kn kc] 61)) 9 84 5 TX Try.underlying9 Try.underlying84 Try.underlying5
    have hc1 := grownCap_ge (w.alloc (.cells #[.int .u8 3, .int .u8 SP, .string NM, .slice aa an ac, .string TX, .slice ka kn kc] 61)) TX.size 0 5
    have hc2 := grownCap_le_maxLen (w.alloc (.cells #[.int .u8 3, .int .u8 SP, .string NM, .slice aa an ac, .string TX, .slice ka kn kc] 61)) TX.size 0 5 (by unfold maxLen; omega)
    generalize grownCap (w.alloc (.cells #[.int .u8 3, .int .u8 SP, .string NM, .slice aa an ac, .string TX, .slice ka kn kc] 61)) TX.size 0 5 = c at *
    have HCALL := HADD.out _ c 3 rfl L1 (by omega) hc2
    rw [drew_alloc, World.size_alloc, hbl] at HCALL
    have HCALL := hid HCALL
    clear HADD L1 hc1 hc2
    go_enter Try.func60, Try.ntmps60
    go_wp2_with fail
    refine (HCALL.out).mono ?_
    rintro e w6 ⟨rfl, hT6⟩
    have HR := hid hT6
    clear hT6
    go_wp2
    go_ret
    exact ⟨rfl, HR.out⟩
set_option maxHeartbeats 600000 in
theorem pmake_no (w : World) (R : Nat) (x : Dom.N) (hk : x.kind < 1 ∨ 3 < x.kind) (aa : Option Addr) (an ac : Nat) (ka : Option Addr) (kn kc : Nat) :
    Calls Try.prog 60 #[.pointer (some ⟨R, 0, none⟩), .agg #[.int .u8 x.kind, .int .u8 x.space, .string (bs x.name), .slice aa an ac, .string (bs x.text), .slice ka kn kc]] w fun e w' => e = .returned (.int .i64 (-1)) ∧ Below w.heap.size w w' := by
  obtain ⟨NM, hNM⟩ : ∃ NM, bs x.name = NM := ⟨_, rfl⟩
  obtain ⟨TX, hTX⟩ : ∃ TX, bs x.text = TX := ⟨_, rfl⟩
  obtain ⟨K, hK⟩ : ∃ K, x.kind = K := ⟨_, rfl⟩
  obtain ⟨SP, hSP⟩ : ∃ SP, x.space = SP := ⟨_, rfl⟩
  rw [hNM, hTX, hK, hSP]
  rw [hK] at hk
  clear hNM hTX hK hSP
  have d1 : ((K : Int) == 1) = false := by simp; omega
  have d2 : ((K : Int) == 2) = false := by simp; omega
  have d3 : ((K : Int) == 3) = false := by simp; omega
  clear hk
  go_enter Try.func60, Try.ntmps60
  go_wp2
  go_ret
  exact ⟨rfl, (Below.refl w.heap.size w).alloc (Nat.le_refl _) _⟩
/-- Make, of whatever node. -/
theorem pmake_any (w : World) (base R : Nat) (S : Nat → Prop) (t : Dom.T) (h : TreeK w base R S t) (hG : Dom.Good t) (hf : t.length ≤ 1000000) (hbase : base ≤ w.heap.size)
    (x : Dom.N) (aa : Option Addr) (an ac : Nat) (ka : Option Addr) (kn kc : Nat) (hA : IsA w aa an x.atts) (hcost : Dom.cost x ≤ 500000) :
    Calls Try.prog 60 #[.pointer (some ⟨R, 0, none⟩), .agg #[.int .u8 x.kind, .int .u8 x.space, .string (bs x.name), .slice aa an ac, .string (bs x.text), .slice ka kn kc]] w fun e w' => e = .returned (.int .i64 (Dom.makeT t x).2) ∧ TurnedK w w' base R S (Dom.makeT t x).1 := by
  by_cases hk : x.kind < 1 ∨ 3 < x.kind
  · have e : Dom.makeT t x = (t, -1) := by unfold Dom.makeT; rw [if_pos hk]
    rw [e]
    exact (pmake_no w R x hk aa an ac ka kn kc).mono fun e w' ⟨h1, h2⟩ => ⟨h1, TurnedK.same h h2⟩
  · have e : Dom.makeT t x = (t ++ [⟨Dom.bareP x, -1, []⟩], (t.length : Int)) := by unfold Dom.makeT; rw [if_neg hk]
    rw [e]
    by_cases h1 : x.kind = 1
    · exact pmake_elem w base R S t h hG hf hbase x h1 aa an ac ka kn kc hA hcost
    · exact pmake_text w base R S t h hG hf hbase x (by omega) aa an ac ka kn kc (cost_short hcost).2.2.2
end Go.Proofs.Ytlgmjnnfndedbaa
