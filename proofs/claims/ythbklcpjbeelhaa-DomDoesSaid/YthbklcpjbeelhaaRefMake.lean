/- Walks over the reference of layer 10: Make, Copy, New. -/
import Derived.Test.YthbklcpjbeelhaaTreeGrow
import Derived.RangeFuncNested
namespace Go.Proofs.Ythbklcpjbeelhaa
open Go.RowKit Go.Lib
set_option maxRecDepth 100000
set_option linter.unusedVariables false

set_option maxHeartbeats 4000000 in
theorem rmake_no (w : World) (R : Nat) (x : Dom.N) (hk : x.kind < 1 ∨ 3 < x.kind) (aa : Option Addr) (an ac : Nat) (ka : Option Addr) (kn kc : Nat) :
    Calls Try.prog 13 #[.pointer (some ⟨R, 0, none⟩), .agg #[.int .u8 x.kind, .int .u8 x.space, .string (bs x.name), .slice aa an ac, .string (bs x.text), .slice ka kn kc]] w fun e w' => e = .returned (.int .i64 (-1)) ∧ Below w.heap.size w w' := by
  obtain ⟨NM, hNM⟩ : ∃ NM, bs x.name = NM := ⟨_, rfl⟩
  obtain ⟨TX, hTX⟩ : ∃ TX, bs x.text = TX := ⟨_, rfl⟩
  obtain ⟨K, hK⟩ : ∃ K, x.kind = K := ⟨_, rfl⟩
  obtain ⟨SP, hSP⟩ : ∃ SP, x.space = SP := ⟨_, rfl⟩
  rw [hNM, hTX, hK, hSP]
  rw [hK] at hk
  clear hNM hTX hK hSP
  by_cases h1 : K < 1
  · obtain rfl : K = 0 := by omega
    clear hk
    go_enter Try.func13, Try.ntmps13
    go_wp2
    go_ret
    exact ⟨rfl, (Below.refl w.heap.size w).alloc (Nat.le_refl _) _⟩
  · have d1 : decide ((K : Int) < 1) = false := decide_eq_false (by omega)
    have d2 : decide ((3 : Int) < (K : Int)) = true := decide_eq_true (by omega)
    have d1n : decide (K < 1) = false := decide_eq_false (by omega)
    have d2n : decide (3 < K) = true := decide_eq_true (by omega)
    clear hk
    go_enter Try.func13, Try.ntmps13
    go_wp2
    go_ret
    exact ⟨rfl, (Below.refl w.heap.size w).alloc (Nat.le_refl _) _⟩
set_option maxHeartbeats 16000000 in
theorem rmake_yes (w : World) (base R : Nat) (S : Nat → Prop) (t : Dom.T) (h : TreeX w base R S t) (hG : Dom.Good t) (hf : t.length ≤ 1000000) (hbase : base ≤ w.heap.size)
    (x : Dom.N) (hk : ¬ (x.kind < 1 ∨ 3 < x.kind)) (aa : Option Addr) (an ac : Nat) (ka : Option Addr) (kn kc : Nat) (hA : IsA w aa an x.atts) (hnil : aa = none → ac = 0) (han : an ≤ 1000000000) :
    Calls Try.prog 13 #[.pointer (some ⟨R, 0, none⟩), .agg #[.int .u8 x.kind, .int .u8 x.space, .string (bs x.name), .slice aa an ac, .string (bs x.text), .slice ka kn kc]] w fun e w' => e = .returned (.int .i64 t.length) ∧ Turned w w' base R S (t ++ [⟨Dom.bareP x, -1, []⟩]) := by
  obtain ⟨v, rs, h⟩ := h
  obtain ⟨g, cap, rfl, hnc, hR⟩ := h.read hG.some hf
  have h1 := hR.top
  have hlt : R < w.heap.size := (h.inb R h.rS).2
  have hlen : 0 < t.length := List.length_pos_iff.2 hG.some
  have hgR : g ≠ R := by
    obtain ⟨cs, hc⟩ := own_cells h.own (g := g) rfl
    exact blk_ne hc h.top node_ne_tree
  have HBR := hid fun W (hW : Below w.heap.size w W) => rbare_any x aa an ac ka kn kc W (hA.below hW) hnil han
  have HP := hid fun (w6 w7 : World) v' r x hb own' gr loc hfit hkv => h.push (w6 := w6) (w7 := w7) (v' := v') (r := r) (x := x) hb hbase own' gr loc hfit hkv
  have HOW := hid fun W (hW : Below w.heap.size w W) => own_below h.own hW
  have HT7 := hid fun W (hW : Below w.heap.size w W) => h.top.below hW hlt
  obtain ⟨y, hy⟩ : ∃ y, Dom.bareP x = y := ⟨_, rfl⟩
  rw [hy] at HBR ⊢
  obtain ⟨NM, hNM⟩ : ∃ NM, bs x.name = NM := ⟨_, rfl⟩
  obtain ⟨TX, hTX⟩ : ∃ TX, bs x.text = TX := ⟨_, rfl⟩
  obtain ⟨K, hK⟩ : ∃ K, x.kind = K := ⟨_, rfl⟩
  obtain ⟨SP, hSP⟩ : ∃ SP, x.space = SP := ⟨_, rfl⟩
  rw [hNM, hTX, hK, hSP] at HBR ⊢
  rw [hK] at hk
  have d1 : decide ((K : Int) < 1) = false := decide_eq_false (by omega)
  have d2 : decide ((3 : Int) < (K : Int)) = false := decide_eq_false (by omega)
  have d1n : decide (K < 1) = false := decide_eq_false (by omega)
  have d2n : decide (3 < K) = false := decide_eq_false (by omega)
  obtain ⟨n, hn⟩ : ∃ n, List.length t = n := ⟨_, rfl⟩
  rw [hn] at h1 hnc hf hlen HP HOW HT7 ⊢
  have L1 := (Below.refl w.heap.size w).alloc (Nat.le_refl _) (.cells #[.int .u8 K, .int .u8 SP, .string NM, .slice aa an ac, .string TX, .slice ka kn kc] 32)
  have N1 := BlkW.new w #[.int .u8 K, .int .u8 SP, .string NM, .slice aa an ac, .string TX, .slice ka kn kc] 32
  have hcT : ∀ W, Below w.heap.size w W → W.cell? ⟨R, 0, none⟩ = some (.slice (some ⟨g, 0, none⟩) n cap) := fun W hW => cell_up h1 hW
  clear hR h hG hn hNM hTX hK hSP hk hA hnil han hy
  go_enter Try.func13, Try.ntmps13
  go_wp2_with fail
  obtain ⟨W1, hW1⟩ : ∃ W1, w.alloc (.cells #[.int .u8 K, .int .u8 SP, .string NM, .slice aa an ac, .string TX, .slice ka kn kc] 32) = W1 := ⟨_, rfl⟩
  rw [hW1] at N1 L1 ⊢
  clear hW1
  have L1d := L1.drew
  have n0 := N1.cell 0
  have n1 := N1.cell 1
  have n2 := N1.cell 2
  have n3 := N1.cell 3
  have n4 := N1.cell 4
  have n5 := N1.cell 5
  simp only [List.getElem?_toArray, List.getElem?_cons_zero, List.getElem?_cons_succ] at n0 n1 n2 n3 n4 n5
  clear N1
  go_region_law (first
    | (refine step_call rfl rfl (enters_of Try.func38 (by kernel_rfl) rfl) ?_
       refine (HBR.out _ (by assumption)).mono ?_
       rintro e w5 ⟨⟨a', c', rfl, hI, hS, hn, hty, hge, _⟩, b5⟩
       refine ⟨_, rfl, ?_⟩
       have L5 := L1d.trans (b5.mono L1d.size)
       have L6 := L5.alloc L5.size (.cells #[.int .u8 y.kind, .int .u8 y.space, .string (bs y.name), .slice a' y.atts.length c', .string (bs y.text), .slice none 0 0, .int .i64 (-1), .slice none 0 0] 59)
       have al := (Below.refl w5.heap.size w5).alloc (Nat.le_refl _) (.cells #[.int .u8 y.kind, .int .u8 y.space, .string (bs y.name), .slice a' y.atts.length c', .string (bs y.text), .slice none 0 0, .int .i64 (-1), .slice none 0 0] 59)
       have N6 := BlkW.new w5 #[.int .u8 y.kind, .int .u8 y.space, .string (bs y.name), .slice a' y.atts.length c', .string (bs y.text), .slice none 0 0, .int .i64 (-1), .slice none 0 0] 59
       have F6 := hid (show FitsT (w5.alloc (.cells #[.int .u8 y.kind, .int .u8 y.space, .string (bs y.name), .slice a' y.atts.length c', .string (bs y.text), .slice none 0 0, .int .i64 (-1), .slice none 0 0] 59)) base (fun k => S k ∨ (w.heap.size ≤ k ∧ k < (w5.alloc (.cells #[.int .u8 y.kind, .int .u8 y.space, .string (bs y.name), .slice a' y.atts.length c', .string (bs y.text), .slice none 0 0, .int .i64 (-1), .slice none 0 0] 59)).heap.size)) ⟨y.kind, y.space, y.name, a', y.atts.length, c', y.text, -1, .slice none 0 0⟩ ⟨y, -1, []⟩ from
         ⟨rfl, rfl, rfl, rfl, rfl, hI.below al, hty.below al, fun p hp => .inr ⟨by have := hge p hp; have := L1d.size; omega, by have := hty.lt p hp; have := al.size; omega⟩, hn, World.ownsRow_nil _ _ _ _, fun g hg => by cases hg⟩)
       have NC := hid (show ∀ j, j < 8 → (w5.alloc (.cells #[.int .u8 y.kind, .int .u8 y.space, .string (bs y.name), .slice a' y.atts.length c', .string (bs y.text), .slice none 0 0, .int .i64 (-1), .slice none 0 0] 59)).cell? ((⟨w5.heap.size, 0, none⟩ : Addr).add j) = (rowT ⟨y.kind, y.space, y.name, a', y.atts.length, c', y.text, -1, .slice none 0 0⟩)[j]? from fun j _ => by
         rw [addr_add, Nat.zero_add, N6.cell j]
         simp [rowT])
       have HL6 := hid L6
       clear hI hS hn hty hge al N6 b5)
    | (refine step_T rfl _ _ rfl base n _ rs rfl (HOW.out _ HL6.out) ⟨w5.heap.size, 0, none⟩ 1 ⟨y.kind, y.space, y.name, a', y.atts.length, c', y.text, -1, .slice none 0 0⟩ rfl NC.out rfl (by omega) (by have := HL6.out.size; omega) ?_
       intro v' w' own2 gr2 loc2
       have tR := (HT7.out _ HL6.out).grow gr2 (fun e => hgR (Option.some.inj e).symm)
       have HR := hid (HP.out _ w' v' _ ⟨y, -1, []⟩ HL6.out own2 gr2 loc2 F6.out rfl)
       obtain ⟨g', cap', hv', hc'⟩ := own_addr own2 (by omega)
       subst hv'
       have r0 := tR.cell 0
       have q0 := tR.free 0
       simp only [List.getElem?_toArray, List.getElem?_cons_zero] at r0
       clear own2 gr2 loc2 tR))
  all_goals go_wp2
  all_goals go_ret
  all_goals exact ⟨rfl, HR.out⟩
/-- Make, of whatever node. -/
theorem rmake_any (w : World) (base R : Nat) (S : Nat → Prop) (t : Dom.T) (h : TreeX w base R S t) (hG : Dom.Good t) (hf : t.length ≤ 1000000) (hbase : base ≤ w.heap.size)
    (x : Dom.N) (aa : Option Addr) (an ac : Nat) (ka : Option Addr) (kn kc : Nat) (hA : IsA w aa an x.atts) (hnil : aa = none → ac = 0) (han : an ≤ 1000000000) :
    Calls Try.prog 13 #[.pointer (some ⟨R, 0, none⟩), .agg #[.int .u8 x.kind, .int .u8 x.space, .string (bs x.name), .slice aa an ac, .string (bs x.text), .slice ka kn kc]] w fun e w' => e = .returned (.int .i64 (Dom.makeT t x).2) ∧ Turned w w' base R S (Dom.makeT t x).1 := by
  by_cases hk : x.kind < 1 ∨ 3 < x.kind
  · have e : Dom.makeT t x = (t, -1) := by unfold Dom.makeT; rw [if_pos hk]
    rw [e]
    exact (rmake_no w R x hk aa an ac ka kn kc).mono fun e w' ⟨h1, h2⟩ => ⟨h1, S, h.below h2, Turn.of_below h2⟩
  · have e : Dom.makeT t x = (t ++ [⟨Dom.bareP x, -1, []⟩], (t.length : Int)) := by unfold Dom.makeT; rw [if_neg hk]
    rw [e]
    exact rmake_yes w base R S t h hG hf hbase x hk aa an ac ka kn kc hA hnil han
set_option maxHeartbeats 4000000 in
theorem rcopy_yes (w : World) (base R : Nat) (S : Nat → Prop) (t : Dom.T) (i : Nat) (h : TreeX w base R S t) (hG : Dom.Good t) (hf : t.length ≤ 1000000) (hbase : base ≤ w.heap.size) (hat : ∀ i, (Dom.nodeAt t i).nd.atts.length ≤ 1000000000) (hi : i < t.length) (h0 : i ≠ 0) :
    Calls Try.prog 16 #[.pointer (some ⟨R, 0, none⟩), .int .i64 i] w fun e w' => e = .returned (.int .i64 (Dom.makeT t (Dom.nodeAt t i).nd).2) ∧ Turned w w' base R S (Dom.makeT t (Dom.nodeAt t i).nd).1 := by
  have hX := h
  obtain ⟨v, rs, h⟩ := h
  obtain ⟨g, cap, rfl, hnc, hR⟩ := h.read hG.some hf
  have h1 := hR.top
  have HT := there_any w R g cap t i hR
  rw [decide_eq_true (show Dom.there t (i : Nat) from ⟨by omega, by omega⟩)] at HT
  obtain ⟨aa, an, ac, ka, kn, kc, X⟩ := hR.at_ i _ (node_get hi)
  have HM := hid (rmake_any w base R S t hX hG hf hbase (Dom.nodeAt t i).nd aa an ac none 0 0 X.atts X.anil (by have := hat i; have := X.atts.1; omega))
  have x0 := X.c0
  have x1 := X.c1
  have x2 := X.c2
  have x3 := X.c3
  have x4 := X.c4
  have x5 := X.c5
  obtain ⟨n, hn⟩ : ∃ n, List.length t = n := ⟨_, rfl⟩
  rw [hn] at h1 hnc hi
  have HT := hid HT
  have hi3 : (i : Int) < (n : Int) := by omega
  have z2 : ((i : Int)).toNat = i := by omega
  have e0 : ((i : Int) == 0) = false := by simp; exact h0
  generalize Dom.makeT t (Dom.nodeAt t i).nd = MT at *
  generalize (Dom.nodeAt t i).nd = y at *
  obtain ⟨NM, hNM⟩ : ∃ NM, bs y.name = NM := ⟨_, rfl⟩
  obtain ⟨TX, hTX⟩ : ∃ TX, bs y.text = TX := ⟨_, rfl⟩
  obtain ⟨K, hK⟩ : ∃ K, y.kind = K := ⟨_, rfl⟩
  obtain ⟨SP, hSP⟩ : ∃ SP, y.space = SP := ⟨_, rfl⟩
  rw [hNM, hTX, hK, hSP] at HM
  rw [hK] at x0
  rw [hSP] at x1
  rw [hNM] at x2
  rw [hTX] at x4
  clear X hR h hn hG hat hX hNM hTX hK hSP
  go_enter Try.func16, Try.ntmps16
  go_wp2_with fail
  refine (HT.out).mono ?_
  rintro e w1 ⟨rfl, rfl⟩
  go_wp2_with fail
  refine (HM.out).mono ?_
  rintro e w2 ⟨rfl, hT⟩
  have HTT := hid hT
  clear hT
  go_wp2
  go_ret
  exact ⟨rfl, HTT.out⟩
theorem rcopy_no (w : World) (base R : Nat) (S : Nat → Prop) (t : Dom.T) (i : Int) (h : TreeX w base R S t) (hG : Dom.Good t) (hf : t.length ≤ 1000000) (hi : ¬ Dom.there t i ∨ i = 0) :
    Calls Try.prog 16 #[.pointer (some ⟨R, 0, none⟩), .int .i64 i] w fun e w' => e = .returned (.int .i64 (-1)) ∧ w' = w := by
  obtain ⟨v, rs, h⟩ := h
  obtain ⟨g, cap, rfl, hnc, hR⟩ := h.read hG.some hf
  have HT := there_any w R g cap t i hR
  by_cases h1 : Dom.there t i
  · obtain rfl : i = 0 := hi.resolve_left fun e => e h1
    rw [decide_eq_true h1] at HT
    have HT := hid HT
    clear hR h hG hi h1
    go_enter Try.func16, Try.ntmps16
    go_wp2_with fail
    refine (HT.out).mono ?_
    rintro e w1 ⟨rfl, rfl⟩
    go_wp2
    go_ret
    exact ⟨rfl, rfl⟩
  · rw [decide_eq_false h1] at HT
    have HT := hid HT
    clear hR h hG hi h1
    go_enter Try.func16, Try.ntmps16
    go_wp2_with fail
    refine (HT.out).mono ?_
    rintro e w1 ⟨rfl, rfl⟩
    go_wp2
    go_ret
    exact ⟨rfl, rfl⟩
/-- Copy, of whatever number. -/
theorem rcopy_any (w : World) (base R : Nat) (S : Nat → Prop) (t : Dom.T) (i : Int) (h : TreeX w base R S t) (hG : Dom.Good t) (hf : t.length ≤ 1000000) (hbase : base ≤ w.heap.size) (hat : ∀ i, (Dom.nodeAt t i).nd.atts.length ≤ 1000000000) :
    Calls Try.prog 16 #[.pointer (some ⟨R, 0, none⟩), .int .i64 i] w fun e w' => e = .returned (.int .i64 (Dom.copyT t i).2) ∧ Turned w w' base R S (Dom.copyT t i).1 := by
  by_cases hi : ¬ Dom.there t i ∨ i = 0
  · have e : Dom.copyT t i = (t, -1) := by unfold Dom.copyT; rw [if_pos hi]
    rw [e]
    exact (rcopy_no w base R S t i h hG hf hi).mono fun e w' ⟨h1, h2⟩ => ⟨h1, by rw [h2]; exact Turned.same h⟩
  · have h1 : Dom.there t i := Classical.byContradiction fun e => hi (.inl e)
    obtain ⟨n, rfl⟩ : ∃ n : Nat, i = n := ⟨i.toNat, by have := h1.1; omega⟩
    have e : Dom.copyT t (n : Int) = Dom.makeT t (Dom.nodeAt t n).nd := by unfold Dom.copyT; rw [if_neg hi]; rfl
    rw [e]
    exact rcopy_yes w base R S t n h hG hf hbase hat (by have := h1.2; omega) (fun e => hi (.inr (by omega)))
set_option maxHeartbeats 4000000 in
/-- New: a tree with its root, in new blocks. -/
theorem rnew_any (w : World) (base : Nat) (hbase : base ≤ w.heap.size) :
    Calls Try.prog 10 #[] w fun e w' => ∃ R, e = .returned (.pointer (some ⟨R, 0, none⟩)) ∧ Below w.heap.size w w' ∧ TreeX w' base R (fun k => w.heap.size ≤ k ∧ k < w'.heap.size) Dom.tNew := by
  go_enter Try.func10, Try.ntmps10
  go_wp2
  go_ret
  have b1 := (Below.refl w.heap.size w).alloc (Nat.le_refl _) (.cells #[.int .u8 0, .int .u8 0, .string ⟨#[]⟩, .slice none 0 0, .string ⟨#[]⟩, .slice none 0 0, .int .i64 (-1), .slice none 0 0] 59)
  have N := BlkW.new w #[.int .u8 0, .int .u8 0, .string ⟨#[]⟩, .slice none 0 0, .string ⟨#[]⟩, .slice none 0 0, .int .i64 (-1), .slice none 0 0] 59
  have N2 := N.alloc (.cells #[.slice (some ⟨w.heap.size, 0, none⟩) 1 1] 62)
  have T2 := BlkW.new (w.alloc (.cells #[.int .u8 0, .int .u8 0, .string ⟨#[]⟩, .slice none 0 0, .string ⟨#[]⟩, .slice none 0 0, .int .i64 (-1), .slice none 0 0] 59)) #[.slice (some ⟨w.heap.size, 0, none⟩) 1 1] 62
  rw [World.size_alloc] at T2
  refine ⟨w.heap.size + 1, by simp, b1.alloc b1.size _, _, [⟨0, 0, [], none, 0, 0, [], -1, .slice none 0 0⟩], T2, ⟨by simp, by simp⟩, ⟨rfl, .inr ⟨w.heap.size, 1, _, rfl, hbase, N2, Nat.le_refl _, by decide, rfl, rfl⟩⟩, fun g hg => ?_, rfl, fun i r x hr hx => ?_, fun i j ri rj hij hri hrj => ?_, fun k hk => ⟨by omega, hk.2⟩⟩
  · obtain rfl : w.heap.size = g := Option.some.inj hg
    exact ⟨Nat.le_refl _, by simp; omega⟩
  · have hi : i = 0 := by have := (List.getElem?_eq_some_iff.1 hr).1; simp at this; exact this
    subst hi
    injection hr with hr
    injection hx with hx
    subst hr
    subst hx
    exact ⟨rfl, rfl, rfl, rfl, rfl, ⟨rfl, .inl rfl⟩, (fun x hx => by cases hx), (fun x hx => by cases hx), fun _ => rfl, World.ownsRow_nil _ _ _ _, fun g hg => by cases hg⟩
  · have h1 : i = 0 := by have := (List.getElem?_eq_some_iff.1 hri).1; simp at this; exact this
    have h2 : j = 0 := by have := (List.getElem?_eq_some_iff.1 hrj).1; simp at this; exact this
    omega
end Go.Proofs.Ythbklcpjbeelhaa
