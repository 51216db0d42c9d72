/- Walks over the program's package dom: add, New. -/
import Derived.Test.YtlgmjnnfndedbaaLinkB
namespace Go.Proofs.Ytlgmjnnfndedbaa
open Go.RowKit Go.Lib
set_option maxRecDepth 100000
set_option linter.unusedVariables false

theorem info_pnode : (Try.prog.info? 86).map (fun i => (i.zero, i.size, i.bytes)) = some (some (.agg #[.int .u8 0, .int .u8 0, .string ⟨#[]⟩, .slice none 0 0, .slice none 0 0, .int .i64 0, .int .i64 0, .int .i64 0, .int .i64 0, .int .i64 0]), 10, 112) := by kernel_rfl
/-- 'append(l, n)', l the call's own row of nodes. -/
theorem step_P {w : World} {ops : Array Oper} {o : Oper} {a : Act} {K : Act → World → Prop} {Q : Exit → Act → World → Prop} {E : Prop} (hgd : o.guard = none) (s x : Operand)
    (ho : o.op = .call { callee := .builtin .append, args := #[s, x], argTypes := #[87, 87] })
    (base n : Nat) (v : Value) (rs : List PR) (hs : a.eval s = v) (hown : w.ownsRow base 86 10 v n (rowsP rs))
    (ad : Addr) (c : Nat) (r : PR) (hx : a.eval x = .slice (some ad) 1 c) (hnew : ∀ j, j < 10 → w.cell? (ad.add j) = (rowP r)[j]?) (hone : r.tv.oneCell' = true)
    (hlen : n + 1 ≤ 1000000000) (hbase : base ≤ w.heap.size)
    (h : ∀ v' w', w'.ownsRow base 86 10 v' (n + 1) (rowsP (rs ++ [r])) → w.grownBy w' v.ownBlock → (v'.ownBlock = v.ownBlock ∨ v'.ownBlock = some w.heap.size) → K (a.put o.dst v') w') :
    if Region.wanted o (yielded ops a.tmps) = true then Oper.wp Try.prog o a w K Q else E := by
  have hw : Region.wanted o (yielded ops a.tmps) = true := by simp [Region.wanted, hgd]
  rw [if_pos hw]
  obtain ⟨i0, hi, hz0, hz1, hz2⟩ := info_parts info_pnode
  obtain ⟨v', w', hr, h2, h3, _, h5⟩ := run_append_own_at (P := Try.prog) w base 87 o.type 86 i0 _ 10 112 Try.underlying87 hi hz0 hz1 hz2 rfl (by decide) v n (rowsP rs) hown ad 1 c (rowP r) rfl
    (fun j u hj => by
      by_cases hj8 : j < 10
      · rw [hnew j hj8, hj]
      · rw [List.getElem?_eq_none (by rw [rowP_len]; omega)] at hj; cases hj) (rowP_one r hone) (by unfold maxLen; omega) (by omega) hbase
  unfold Oper.wp execOp
  simp only [ho, resolve, invoke, builtin, Sem.run_bind, Sem.run_pure, Result.andThen_ok, List.map_toArray, List.map_cons, List.map_nil, hs, hx, hr]
  refine h v' w' ?_ h3 h5
  rw [rowsP_append]
  simpa [rowsP] using h2
/-- The tree with a new node at the end. -/
theorem TreeL.push {w w6 w7 : World} {base R : Nat} {S Q : Nat → Prop} {v v' : Value} {rs : List PR} (h : TreeL w base R S v rs) (hb : Below w.heap.size w w6) (hbase : base ≤ w.heap.size) {r : PR}
    (own' : w7.ownsRow base 86 10 v' (rs.length + 1) (rowsP (rs ++ [r]))) (gr : w6.grownBy w7 v.ownBlock) (loc : v'.ownBlock = v.ownBlock ∨ v'.ownBlock = some w6.heap.size)
    (hfit : FitsP w base Q r) (hQ : ∀ k, Q k → base ≤ k ∧ k < w.heap.size) (hap : ∀ (i : Nat) ri, rs[i]? = some ri → ∀ g, ri.tv.ownBlock = some g → r.tv.ownBlock ≠ some g) :
    ∃ S', TreeL (w7.setCell ⟨R, 0, none⟩ v') base R S' v' (rs ++ [r]) ∧ Turn (fun k => S k ∨ Q k) S' w (w7.setCell ⟨R, 0, none⟩ v') := by
  have h6 := h.below hb
  have tyN : ∀ g, v.ownBlock = some g → ∃ cs, BlkW w6 g cs 86 := fun g hg => own_cells h6.own hg
  have keepF : ∀ {Q : Nat → Prop} {r : PR}, FitsP w6 base Q r → (∀ p, r.ad = some p → p.block ≠ R) → (∀ g, r.tv.ownBlock = some g → g ≠ R) → FitsP (w7.setCell ⟨R, 0, none⟩ v') base Q r := by
    intro Q r F ha hk
    have e1 : ∀ p, r.ad = some p → (w7.setCell ⟨R, 0, none⟩ v').heap[p.block]? = w6.heap[p.block]? := fun p hp => by
      rw [Below.heap_setCell _ _ _ _ (ha p hp)]
      refine gr.block _ (F.typ.lt p hp) fun e => ?_
      obtain ⟨cs, hc⟩ := tyN p.block e.symm
      exact F.typ.ne hc pnode_ne_attr p hp rfl
    exact ⟨isA_in F.atts (S := fun k => ∃ p, r.ad = some p ∧ p.block = k) (.inr fun p hp => ⟨p, hp, rfl⟩) (by rintro k ⟨p, hp, rfl⟩; exact e1 p hp), F.typ.heap e1, F.inS, F.anil,
      F.text.keep fun g hg => by
        rw [Below.heap_setCell _ _ _ _ (hk g hg)]
        obtain ⟨ds, fr, hd⟩ := F.text.cells hg
        refine gr.block _ (F.text.lt hg).2 fun e => ?_
        obtain ⟨cs, hc⟩ := tyN g e.symm
        exact blk_neM hc hd pnode_ne_u8 rfl, F.tS⟩
  have hRlt : R < w.heap.size := (h.inb R h.rS).2
  have hs7 := gr.size
  have hs6 := hb.size
  have hfit6 : FitsP w6 base Q r := hfit.keep (fun _ e => e) fun k hk => hb.block k (hQ k hk).2
  have tR : BlkW w7 R #[v] 89 := (gr.block R h6.top.lt fun e => by
    obtain ⟨cs, hc⟩ := tyN R e.symm
    exact blk_ne hc h6.top pnode_ne_tree rfl).trans h6.top
  have v7 := own'.lt
  have nR : ∀ g, v'.ownBlock = some g → R ≠ g := fun g hg e => by
    obtain ⟨cs, hc⟩ := own_cells own' hg
    subst e
    exact blk_ne hc tR pnode_ne_tree rfl
  refine ⟨fun k => (S k ∨ Q k) ∨ (w.heap.size ≤ k ∧ k < w7.heap.size), ⟨?_, .inl (.inl h.rS), ?_, ?_, ?_, ?_, ?_⟩, ?_⟩
  · have := tR.set_ 0 v'
    exact this
  · rw [List.length_append]
    exact own_keep own' fun g hg => Below.heap_setCell _ _ _ _ (fun e => nR g hg e.symm)
  · intro g hg
    rcases loc with e | e
    · rw [e] at hg
      exact .inl (.inl (h.vS g hg))
    · have := v7 g hg
      rw [e] at hg
      have := Option.some.inj hg
      exact .inr ⟨by omega, by omega⟩
  · intro i ri hri
    by_cases hi : i < rs.length
    · rw [List.getElem?_append_left hi] at hri
      have F := h6.fits i ri hri
      refine (keepF F (fun p hp e => ?_) (fun g hg e => ?_)).keep (fun k hk => .inl (.inl hk)) fun _ _ => rfl
      · exact F.typ.ne h6.top (by decide) p hp e
      · obtain ⟨ds, fr, hd⟩ := F.text.cells hg
        subst e
        exact blk_neM h6.top hd (by decide) rfl
    · rw [List.getElem?_append_right (by omega)] at hri
      have e0 : i - rs.length = 0 := by
        have := (List.getElem?_eq_some_iff.1 hri).1
        simp at this
        omega
      rw [e0] at hri
      injection hri with hri
      subst hri
      refine (keepF hfit6 (fun p hp e => ?_) (fun g hg e => ?_)).keep (fun k hk => .inl (.inr hk)) fun _ _ => rfl
      · exact hfit6.typ.ne h6.top (by decide) p hp e
      · obtain ⟨ds, fr, hd⟩ := hfit6.text.cells hg
        subst e
        exact blk_neM h6.top hd (by decide) rfl
  · intro i j ri rj hij hri hrj g hg
    by_cases hi : i < rs.length
    · rw [List.getElem?_append_left hi] at hri
      by_cases hj : j < rs.length
      · rw [List.getElem?_append_left hj] at hrj
        exact h.apart i j ri rj hij hri hrj g hg
      · rw [List.getElem?_append_right (by omega)] at hrj
        have e0 : j - rs.length = 0 := by
          have := (List.getElem?_eq_some_iff.1 hrj).1
          simp at this
          omega
        rw [e0] at hrj
        injection hrj with hrj
        subst hrj
        exact hap i ri hri g hg
    · rw [List.getElem?_append_right (by omega)] at hri
      have e0 : i - rs.length = 0 := by
        have := (List.getElem?_eq_some_iff.1 hri).1
        simp at this
        omega
      rw [e0] at hri
      injection hri with hri
      subst hri
      have hj : j < rs.length := by
        have := (List.getElem?_eq_some_iff.1 hrj).1
        simp at this
        omega
      rw [List.getElem?_append_left hj] at hrj
      exact fun e => hap j rj hrj g e hg
  · rintro k ((hk | hk) | hk)
    · have := h.inb k hk
      exact ⟨this.1, by simp [World.setCell]; omega⟩
    · have := hQ k hk
      exact ⟨this.1, by simp [World.setCell]; omega⟩
    · exact ⟨by omega, by simp [World.setCell]; exact hk.2⟩
  · refine ⟨gr.os.trans hb.os, gr.tape.trans hb.tape, gr.output.trans hb.output, by simp [World.setCell]; omega, fun k hk hn => ?_, fun k hk => hk.imp (fun e => e) fun q => q.1⟩
    rw [Below.heap_setCell _ _ _ _ (fun e => hn (by rw [e]; exact .inl h.rS))]
    exact (gr.block k (by omega) fun e => hn (.inl (h.vS k e.symm))).trans (hb.block k hk)
set_option maxHeartbeats 4000000 in
theorem padd_any (w : World) (base R : Nat) (S Q : Nat → Prop) (v : Value) (rs : List PR) (r : PR) (a0 a1 a2 a3 a4 : Int) (h : TreeL w base R S v rs) (hlen : rs.length ≤ 1000000) (hbase : base ≤ w.heap.size)
    (hfit : FitsP w base Q r) (hQ : ∀ k, Q k → base ≤ k ∧ k < w.heap.size) (hap : ∀ (i : Nat) ri, rs[i]? = some ri → ∀ g, ri.tv.ownBlock = some g → r.tv.ownBlock ≠ some g) (hlk : r.lk = Dom.Lk.none) (hone : r.tv.oneCell' = true) :
    Calls Try.prog 59 #[.pointer (some ⟨R, 0, none⟩), .agg #[.int .u8 r.nd.kind, .int .u8 r.nd.space, .string (bs r.nd.name), .slice r.ad r.an r.ac, r.tv, .int .i64 a0, .int .i64 a1, .int .i64 a2, .int .i64 a3, .int .i64 a4]] w fun e w' =>
      e = .returned (.int .i64 rs.length) ∧ ∃ S' v', TreeL w' base R S' v' (rs ++ [r]) ∧ Turn (fun k => S k ∨ Q k) S' w w' := by
  have h1 := h.top.cell 0
  have HP := hid fun (w6 w7 : World) v' hb own' gr loc => h.push (w6 := w6) (w7 := w7) (v' := v') (r := r) (Q := Q) hb hbase own' gr loc hfit hQ hap
  have HOW := hid fun W (hW : Below w.heap.size w W) => own_below h.own hW
  have HT7 := hid fun W (hW : Below w.heap.size w W) => h.top.below hW (h.inb R h.rS).2
  have HGR := hid fun g (hg : v.ownBlock = some g) => h.gR hg
  have HROW := hid (show rowP r = [.int .u8 r.nd.kind, .int .u8 r.nd.space, .string (bs r.nd.name), .slice r.ad r.an r.ac, r.tv, .int .i64 (-1), .int .i64 (-1), .int .i64 (-1), .int .i64 (-1), .int .i64 (-1)] by unfold rowP; rw [hlk]; rfl)
  simp only [List.getElem?_toArray, List.getElem?_cons_zero] at h1
  obtain ⟨n, hn⟩ : ∃ n, rs.length = n := ⟨_, rfl⟩
  rw [hn] at HP HOW hlen ⊢
  generalize hK : r.nd.kind = K at *
  generalize hSP : r.nd.space = SP at *
  generalize hNM : bs r.nd.name = NM at *
  generalize hAD : r.ad = aa at *
  generalize hAN : r.an = an at *
  generalize hAC : r.ac = ac at *
  generalize hTV : r.tv = tv at *
  have HTV : r.tv.oneCell' = true := by rw [hTV]; exact hone
  clear h hn hfit hQ hap hlk hK hSP hNM hAD hAN hAC
  go_enter Try.func59, Try.ntmps59
  go_wp2
  have N1 := BlkW.new w #[.int .u8 K, .int .u8 SP, .string NM, .slice aa an ac, tv, .int .i64 (-1), .int .i64 (-1), .int .i64 (-1), .int .i64 (-1), .int .i64 (-1)] 86
  have L1 := (Below.refl w.heap.size w).alloc (Nat.le_refl _) (.cells #[.int .u8 K, .int .u8 SP, .string NM, .slice aa an ac, tv, .int .i64 (-1), .int .i64 (-1), .int .i64 (-1), .int .i64 (-1), .int .i64 (-1)] 86)
  obtain ⟨W1, hW1⟩ : ∃ W1, w.alloc (.cells #[.int .u8 K, .int .u8 SP, .string NM, .slice aa an ac, tv, .int .i64 (-1), .int .i64 (-1), .int .i64 (-1), .int .i64 (-1), .int .i64 (-1)] 86) = W1 := ⟨_, rfl⟩
  rw [hW1] at N1 L1 ⊢
  clear hW1
  have L1d := L1.drew
  have h1' : W1.drew.cell? ⟨R, 0, none⟩ = some v := cell_up h1 L1d
  have n0 : W1.drew.cell? ⟨w.heap.size, 0, none⟩ = _ := N1.cell 0
  have n1 : W1.drew.cell? ⟨w.heap.size, 1, none⟩ = _ := N1.cell 1
  have n2 : W1.drew.cell? ⟨w.heap.size, 2, none⟩ = _ := N1.cell 2
  have n3 : W1.drew.cell? ⟨w.heap.size, 3, none⟩ = _ := N1.cell 3
  have n4 : W1.drew.cell? ⟨w.heap.size, 4, none⟩ = _ := N1.cell 4
  have n5 : W1.drew.cell? ⟨w.heap.size, 5, none⟩ = _ := N1.cell 5
  have n6 : W1.drew.cell? ⟨w.heap.size, 6, none⟩ = _ := N1.cell 6
  have n7 : W1.drew.cell? ⟨w.heap.size, 7, none⟩ = _ := N1.cell 7
  have n8 : W1.drew.cell? ⟨w.heap.size, 8, none⟩ = _ := N1.cell 8
  have n9 : W1.drew.cell? ⟨w.heap.size, 9, none⟩ = _ := N1.cell 9
  simp only [List.getElem?_toArray, List.getElem?_cons_zero, List.getElem?_cons_succ] at n0 n1 n2 n3 n4 n5 n6 n7 n8 n9
  obtain ⟨W2, hW2⟩ : ∃ W2, W1.drew = W2 := ⟨_, rfl⟩
  have L6 := L1d.alloc L1d.size (.cells #[.int .u8 K, .int .u8 SP, .string NM, .slice aa an ac, tv, .int .i64 (-1), .int .i64 (-1), .int .i64 (-1), .int .i64 (-1), .int .i64 (-1)] 86)
  have N6 := BlkW.new W1.drew #[.int .u8 K, .int .u8 SP, .string NM, .slice aa an ac, tv, .int .i64 (-1), .int .i64 (-1), .int .i64 (-1), .int .i64 (-1), .int .i64 (-1)] 86
  have NC := hid (show ∀ j, j < 10 → (W1.drew.alloc (.cells #[.int .u8 K, .int .u8 SP, .string NM, .slice aa an ac, tv, .int .i64 (-1), .int .i64 (-1), .int .i64 (-1), .int .i64 (-1), .int .i64 (-1)] 86)).cell? ((⟨W1.drew.heap.size, 0, none⟩ : Addr).add j) = (rowP r)[j]? from fun j _ => by
    rw [addr_add, Nat.zero_add, N6.cell j, HROW.out]
    simp)
  have HL6 := hid L6
  have h1'' : (W1.alloc (.cells #[.int .u8 K, .int .u8 SP, .string NM, .slice aa an ac, tv, .int .i64 (-1), .int .i64 (-1), .int .i64 (-1), .int .i64 (-1), .int .i64 (-1)] 86)).drew.cell? ⟨R, 0, none⟩ = some v := cell_up h1 L6
  clear N6 L6 N1 L1 hW2
  go_region_law (refine step_P rfl _ _ rfl base n _ rs rfl (HOW.out _ HL6.out) ⟨W1.drew.heap.size, 0, none⟩ 1 r rfl NC.out HTV (by omega) (Nat.le_trans hbase HL6.out.size) ?_
                 intro v' w' own2 gr2 loc2
                 have tR := (HT7.out _ HL6.out).grow gr2 (fun e => HGR.out R e.symm rfl)
                 have HR := hid (HP.out _ w' v' HL6.out own2 gr2 loc2)
                 obtain ⟨g', cap', hv', hc'⟩ := own_addr own2 (by omega)
                 subst hv'
                 have r0 := tR.cell 0
                 have q0 := tR.free 0
                 simp only [List.getElem?_toArray, List.getElem?_cons_zero] at r0
                 clear own2 gr2 loc2 tR)
  all_goals go_wp2
  all_goals go_ret
  all_goals
    obtain ⟨S', hT, hTu⟩ := HR.out
    exact ⟨rfl, S', _, hT, hTu⟩
/-- The root. -/
def zeroP : PR := ⟨.mk 0 0 [] [] [] [], none, 0, 0, .slice none 0 0, Dom.Lk.none⟩
theorem models_new : Models [zeroP] Dom.tNew := by
  refine ⟨rfl, fun i r hr => ?_, ?_⟩
  · have hi : i = 0 := by have := (List.getElem?_eq_some_iff.1 hr).1; simp at this; exact this
    subst hi
    injection hr with hr
    subst hr
    rfl
  · have : lkOf [zeroP] = fun _ => Dom.Lk.none := by
      funext k
      cases k with
      | zero => rfl
      | succ k => rfl
    rw [this]
    exact Dom.linked_new
set_option maxHeartbeats 4000000 in
theorem pnew_any (w : World) (base : Nat) (hbase : base ≤ w.heap.size) :
    Calls Try.prog 31 #[] w fun e w' => ∃ R, e = .returned (.pointer (some ⟨R, 0, none⟩)) ∧ TurnedK w w' base R (fun _ => False) Dom.tNew := by
  have P := BlkW.new w #[.slice none 0 0] 89
  have b1 := (Below.refl w.heap.size w).alloc (Nat.le_refl _) (.cells #[.slice none 0 0] 89)
  have HT : TreeL (w.alloc (.cells #[.slice none 0 0] 89)) base w.heap.size (fun k => k = w.heap.size) (.slice none 0 0) [] :=
    ⟨P, rfl, World.ownsRow_nil _ _ _ _, (fun g e => by cases e), (fun i r e => by cases e), (fun i j ri rj _ e => by cases e), fun k e => by subst e; simp; exact hbase⟩
  have HF : FitsP (w.alloc (.cells #[.slice none 0 0] 89)) base (fun _ => False) zeroP :=
    ⟨⟨rfl, .inl rfl⟩, (fun p e => by cases e), (fun p e => by cases e), fun _ => rfl, OwnM.nil _ _, fun g e => by cases e⟩
  have HA := padd_any _ base w.heap.size _ (fun _ => False) _ [] zeroP 0 0 0 0 0 HT (Nat.zero_le _) (Nat.le_trans hbase b1.size) HF (fun _ e => e.elim) (fun i ri e => by cases e) rfl rfl
  have HA := hid HA
  have HB1 := hid b1
  clear P b1 HT HF
  go_enter Try.func31, Try.ntmps31
  go_wp2_with fail
  refine (HA.out).mono ?_
  rintro e w2 ⟨rfl, S', v', hT, hTu⟩
  have HR := hid (show TurnedK w w2 base w.heap.size (fun _ => False) Dom.tNew from ⟨S', ⟨v', _, hT, models_new⟩, ⟨hTu.os.trans HB1.out.os, hTu.tape.trans HB1.out.tape, hTu.output.trans HB1.out.output, Nat.le_trans HB1.out.size hTu.size, fun k hk _ => (hTu.block k (by have := HB1.out.size; omega) (by rintro (e | e); omega; exact e)).trans (HB1.out.block k hk), fun k hk => .inr (by
    rcases hTu.sub k hk with (e | e) | e
    · omega
    · exact e.elim
    · have := HB1.out.size; omega)⟩⟩)
  clear hT hTu
  go_wp2
  go_ret
  exact ⟨_, rfl, HR.out⟩
end Go.Proofs.Ytlgmjnnfndedbaa
