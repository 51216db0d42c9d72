/- Walks over the reference of layer 10: a node without its kids. A new node at the end of a tree's row; a call of a Go function, and such an append, as one step of a region that draws its order. A kid list of a tree that grows at its end, in its own row; such an append as one step of a region that draws its order. -/
import Derived.Test.YthbklcpjbeelhaaAppZ
import Derived.Test.YthbklcpjbeelhaaNodeLend
import Derived.Test.YthbklcpjbeelhaaRefCut
import Derived.Maps.AppendAt
import Derived.Deep.RegionLaw
namespace Go.Proofs.Ythbklcpjbeelhaa
open Go.RowKit Go.Lib
set_option maxRecDepth 100000
set_option linter.unusedVariables false

theorem node_store {w W : World} {H B : Nat} {a0 a1 a2 a3 a4 a5 : Value} {T : TypeId} (h : BlkW W H #[a0, a1, a2, a3, a4, a5] T) (hb : Below B w W) (hB : B ≤ H) (b0 b1 b2 b3 b4 b5 : Value) :
    ∃ W', ((((((W.setCell ⟨H, 0, none⟩ b0).setCell ⟨H, 1, none⟩ b1).setCell ⟨H, 2, none⟩ b2).setCell ⟨H, 3, none⟩ b3).setCell ⟨H, 4, none⟩ b4).setCell ⟨H, 5, none⟩ b5) = W' ∧
      W'.cell? ⟨H, 0, none⟩ = some b0 ∧ W'.cell? ⟨H, 1, none⟩ = some b1 ∧ W'.cell? ⟨H, 2, none⟩ = some b2 ∧ W'.cell? ⟨H, 3, none⟩ = some b3 ∧ W'.cell? ⟨H, 4, none⟩ = some b4 ∧ W'.cell? ⟨H, 5, none⟩ = some b5 ∧ Below B w W' ∧ (∀ k, k ≠ H → W'.heap[k]? = W.heap[k]?) := by
  have h5 := (((((h.set_ 0 b0).set_ 1 b1).set_ 2 b2).set_ 3 b3).set_ 4 b4).set_ 5 b5
  have e : ((((((#[a0, a1, a2, a3, a4, a5] : Array Value).setIfInBounds 0 b0).setIfInBounds 1 b1).setIfInBounds 2 b2).setIfInBounds 3 b3).setIfInBounds 4 b4).setIfInBounds 5 b5 = #[b0, b1, b2, b3, b4, b5] := rfl
  rw [e] at h5
  refine ⟨_, rfl, h5.cell 0, h5.cell 1, h5.cell 2, h5.cell 3, h5.cell 4, h5.cell 5, (((((hb.setCell hB b0).setCell hB b1).setCell hB b2).setCell hB b3).setCell hB b4).setCell hB b5, fun k hk => ?_⟩
  rw [Below.heap_setCell _ _ _ _ hk, Below.heap_setCell _ _ _ _ hk, Below.heap_setCell _ _ _ _ hk, Below.heap_setCell _ _ _ _ hk, Below.heap_setCell _ _ _ _ hk, Below.heap_setCell _ _ _ _ hk]
/-- What a node without its kids is, as a value. -/
def BareV (w w' : World) (e : Ending) (y : Dom.N) : Prop := ∃ a c, e = .returned (.agg #[.int .u8 y.kind, .int .u8 y.space, .string (bs y.name), .slice a y.atts.length c, .string (bs y.text), .slice none 0 0]) ∧ IsA w' a y.atts.length y.atts ∧ InS (fun k => w.heap.size ≤ k) a y.atts.length ∧ (a = none → c = 0) ∧ TypB w' a ∧ (∀ p, a = some p → w.heap.size ≤ p.block) ∧ OwnB w' 67 a y.atts.length
set_option maxHeartbeats 4000000 in
theorem rbare_text (x : Dom.N) (hk : x.kind ≠ 1) (aa : Option Addr) (an ac : Nat) (ka : Option Addr) (kn kc : Nat) (w : World) :
    Calls Try.prog 38 #[.agg #[.int .u8 x.kind, .int .u8 x.space, .string (bs x.name), .slice aa an ac, .string (bs x.text), .slice ka kn kc]] w fun e w' => BareV w w' e (Dom.bareP x) ∧ Below w.heap.size w w' := by
  have hR : Dom.bareP x = .mk x.kind 0 [] [] x.text [] := by unfold Dom.bareP; rw [if_neg hk]
  unfold BareV
  have y0 : (Dom.bareP x).kind = x.kind := by rw [hR]; rfl
  have y1 : (Dom.bareP x).space = 0 := by rw [hR]; rfl
  have y2 : (Dom.bareP x).name = [] := by rw [hR]; rfl
  have y3 : (Dom.bareP x).atts = [] := by rw [hR]; rfl
  have y4 : (Dom.bareP x).text = x.text := by rw [hR]; rfl
  rw [y0, y1, y2, y3, y4, List.length_nil]
  clear y0 y1 y2 y3 y4
  have e1 : ((x.kind : Int) != 1) = true := by simp; omega
  obtain ⟨NM, hNM⟩ : ∃ NM, bs x.name = NM := ⟨_, rfl⟩
  obtain ⟨TX, hTX⟩ : ∃ TX, bs x.text = TX := ⟨_, rfl⟩
  obtain ⟨K, hK⟩ : ∃ K, x.kind = K := ⟨_, rfl⟩
  obtain ⟨SP, hSP⟩ : ∃ SP, x.space = SP := ⟨_, rfl⟩
  have hz : bs ([] : List UInt8) = ⟨#[]⟩ := rfl
  rw [hNM, hTX, hK, hSP, hz]
  rw [hK] at e1
  clear hNM hTX hK hSP hR hk hz
  go_enter Try.func38, Try.ntmps38
  go_wp2
  have b1 : Below w.heap.size w (w.alloc (.cells #[.int .u8 K, .int .u8 SP, .string NM, .slice aa an ac, .string TX, .slice ka kn kc] 32)) := (Below.refl _ w).alloc (Nat.le_refl _) _
  have b2 := b1.alloc b1.size (.cells #[.int .u8 K, .int .u8 0, .string ⟨#[]⟩, .slice none 0 0, .string TX, .slice none 0 0] 32)
  have P := BlkW.new (w.alloc (.cells #[.int .u8 K, .int .u8 SP, .string NM, .slice aa an ac, .string TX, .slice ka kn kc] 32)) #[.int .u8 K, .int .u8 0, .string ⟨#[]⟩, .slice none 0 0, .string TX, .slice none 0 0] 32
  rw [World.size_alloc] at P
  have c0 := P.cell 0
  have c1 := P.cell 1
  have c2 := P.cell 2
  have c3 := P.cell 3
  have c4 := P.cell 4
  have c5 := P.cell 5
  simp only [List.getElem?_toArray, List.getElem?_cons_zero, List.getElem?_cons_succ] at c0 c1 c2 c3 c4 c5
  refine bodyPost_ret (v := .agg #[.int .u8 K, .int .u8 0, .string ⟨#[]⟩, .slice none 0 0, .string TX, .slice none 0 0]) (by simp [results, Try.results38, go_sem, c0, c1, c2, c3, c4, c5]) rfl ?_
  exact ⟨⟨none, 0, rfl, ⟨rfl, .inl rfl⟩, .inl rfl, fun _ => rfl, (fun x hx => by cases hx), (fun x hx => by cases hx), .inl rfl⟩, b2⟩
set_option maxHeartbeats 4000000 in
theorem rbare_elem (x : Dom.N) (hk : x.kind = 1) (aa : Option Addr) (an ac : Nat) (ka : Option Addr) (kn kc : Nat) (w : World) (hA : IsA w aa an x.atts) (hnil : aa = none → ac = 0) (han : an ≤ 1000000000) :
    Calls Try.prog 38 #[.agg #[.int .u8 x.kind, .int .u8 x.space, .string (bs x.name), .slice aa an ac, .string (bs x.text), .slice ka kn kc]] w fun e w' => BareV w w' e (Dom.bareP x) ∧ Below w.heap.size w w' := by
  have hR : Dom.bareP x = .mk x.kind x.space x.name x.atts [] [] := by unfold Dom.bareP; rw [if_pos hk]
  unfold BareV
  have y0 : (Dom.bareP x).kind = 1 := by rw [hR]; exact hk
  have y1 : (Dom.bareP x).space = x.space := by rw [hR]; rfl
  have y2 : (Dom.bareP x).name = x.name := by rw [hR]; rfl
  have y3 : (Dom.bareP x).atts = x.atts := by rw [hR]; rfl
  have y4 : (Dom.bareP x).text = [] := by rw [hR]; rfl
  rw [y0, y1, y2, y3, y4, hk]
  clear y0 y1 y2 y3 y4 hR hk
  obtain ⟨NM, hNM⟩ : ∃ NM, bs x.name = NM := ⟨_, rfl⟩
  obtain ⟨TX, hTX⟩ : ∃ TX, bs x.text = TX := ⟨_, rfl⟩
  obtain ⟨SP, hSP⟩ : ∃ SP, x.space = SP := ⟨_, rfl⟩
  obtain ⟨ats, hat⟩ : ∃ ats, x.atts = ats := ⟨_, rfl⟩
  have hz : bs ([] : List UInt8) = ⟨#[]⟩ := rfl
  rw [hNM, hTX, hSP, hz, hat]
  rw [hat] at hA
  clear hNM hTX hSP hz hat
  have b1 : Below w.heap.size w (w.alloc (.cells #[.int .u8 1, .int .u8 SP, .string NM, .slice aa an ac, .string TX, .slice ka kn kc] 32)) := (Below.refl _ w).alloc (Nat.le_refl _) _
  have b2 := b1.alloc b1.size (.cells #[.int .u8 0, .int .u8 0, .string ⟨#[]⟩, .slice none 0 0, .string ⟨#[]⟩, .slice none 0 0] 32)
  have P := BlkW.new (w.alloc (.cells #[.int .u8 1, .int .u8 SP, .string NM, .slice aa an ac, .string TX, .slice ka kn kc] 32)) #[.int .u8 0, .int .u8 0, .string ⟨#[]⟩, .slice none 0 0, .string ⟨#[]⟩, .slice none 0 0] 32
  have P0 := (BlkW.new w #[.int .u8 1, .int .u8 SP, .string NM, .slice aa an ac, .string TX, .slice ka kn kc] 32).alloc (.cells #[.int .u8 0, .int .u8 0, .string ⟨#[]⟩, .slice none 0 0, .string ⟨#[]⟩, .slice none 0 0] 32)
  rw [World.size_alloc] at P
  have HB := hid b2
  have HP := hid P
  have HP0 := hid P0
  have HA := hid (hA.below b2)
  have HN := hid hnil
  have HL := hid hA.1
  clear b1 b2 P P0 hA hnil
  go_enter Try.func38, Try.ntmps38
  go_wp2_with (at_builtin; refine append_T rfl _ _ rfl _ _ [] rfl (World.ownsRow_nil _ _ _ _) aa an ac ats rfl HA.out HN.out (by simp; omega) (Nat.le_refl _) ?_)
  intro v' w' hown hgr
  have hgb := grow_below (show World.grownBy _ w' none from hgr)
  have HQ := hid (HP.out.below hgb HP.out.lt)
  have HQ0 := HP0.out.below hgb HP0.out.lt
  have q0 := HQ0.cell 0
  have q1 := HQ0.cell 1
  have q2 := HQ0.cell 2
  simp only [List.getElem?_toArray, List.getElem?_cons_zero, List.getElem?_cons_succ] at q0 q1 q2
  have f0 := HQ.out.free 0
  have f1 := HQ.out.free 1
  have f2 := HQ.out.free 2
  have f3 := HQ.out.free 3
  have f4 := HQ.out.free 4
  have f5 := HQ.out.free 5
  have r0 := HQ.out.cell 0
  have r1 := HQ.out.cell 1
  have r2 := HQ.out.cell 2
  have r3 := HQ.out.cell 3
  have r4 := HQ.out.cell 4
  have r5 := HQ.out.cell 5
  simp only [List.getElem?_toArray, List.getElem?_cons_zero, List.getElem?_cons_succ] at r0 r1 r2 r3 r4 r5
  obtain ⟨a', cap', rfl, hI, _, _, hge, hx⟩ := own_isT' hown
  have hty := own_typ hown
  have hob := own_blk hown
  have BW : Below w.heap.size w w' := HB.out.trans (hgb.mono HB.out.size)
  obtain ⟨W7, hW7, z0, z1, z2, z3, z4, z5, hb7, hk7⟩ := node_store HQ.out BW (Nat.le_succ _) (.int .u8 1) (.int .u8 SP) (.string NM) (.slice a' ats.length cap') (.string ⟨#[]⟩) (.slice none 0 0)
  have HR := hid (show IsA W7 a' ats.length ats ∧ InS (fun k => w.heap.size ≤ k) a' ats.length ∧ (a' = none → cap' = 0) ∧ TypB W7 a' ∧ (∀ p, a' = some p → w.heap.size ≤ p.block) ∧ OwnB W7 67 a' ats.length from
    ⟨isA_in hI (S := fun k => w.heap.size + 1 + 1 ≤ k) (.inr hge) (fun k hk => hk7 k (by omega)), .inr (fun q hq => by have := hge q hq; omega), hx, hty.heap fun p hp => hk7 _ (by have := hge p hp; omega), fun p hp => by have := hge p hp; omega, hob.keep (S := fun k => k ≠ w.heap.size + 1) (.inr fun p hp => by have := hge p hp; omega) fun k hk => hk7 k hk⟩)
  have HW7 := hid hW7
  have HB7 := hid hb7
  have ZZ := hid (And.intro z0 (And.intro z1 (And.intro z2 (And.intro z3 (And.intro z4 z5)))))
  clear hW7 hb7 hk7 z0 z1 z2 z3 z4 z5 hI hge hx hty hob hown hgr hgb BW HQ0
  go_wp2
  rw [HW7.out]
  obtain ⟨z0, z1, z2, z3, z4, z5⟩ := ZZ.out
  refine bodyPost_ret (v := .agg #[.int .u8 1, .int .u8 SP, .string NM, .slice a' ats.length cap', .string ⟨#[]⟩, .slice none 0 0]) (by simp [results, Try.results38, go_sem, z0, z1, z2, z3, z4, z5]) rfl ?_
  obtain ⟨h1, h2, h3, h4, h5, h6⟩ := HR.out
  exact ⟨⟨a', cap', rfl, h1, h2, h3, h4, h5, h6⟩, HB7.out⟩
theorem rbare_any (x : Dom.N) (aa : Option Addr) (an ac : Nat) (ka : Option Addr) (kn kc : Nat) (w : World) (hA : IsA w aa an x.atts) (hnil : aa = none → ac = 0) (han : an ≤ 1000000000) :
    Calls Try.prog 38 #[.agg #[.int .u8 x.kind, .int .u8 x.space, .string (bs x.name), .slice aa an ac, .string (bs x.text), .slice ka kn kc]] w fun e w' => BareV w w' e (Dom.bareP x) ∧ Below w.heap.size w w' := by
  by_cases hk : x.kind = 1
  · exact rbare_elem x hk aa an ac ka kn kc w hA hnil han
  · exact rbare_text x hk aa an ac ka kn kc w
end Go.Proofs.Ythbklcpjbeelhaa
namespace Go.Proofs.Ythbklcpjbeelhaa
open Go.RowKit Go.Lib
set_option maxRecDepth 100000
set_option linter.unusedVariables false

/-- A call of a Go function with one argument. -/
theorem step_call {P : Program} {w : World} {ops : Array Oper} {o : Oper} {a : Act} {K : Act → World → Prop} {Q : Exit → Act → World → Prop} {E : Prop} {f : Nat} {x : Operand} {ts : Array TypeId} (hgd : o.guard = none)
    (ho : o.op = .call { callee := .value (.func f), args := #[x], argTypes := ts }) (eg : ∀ args w, (callFunc f args).run P w = .ok (.enter f args) w)
    (h : Calls P f #[a.eval x] w fun e w' => ∃ v, e = .returned v ∧ K (a.put o.dst v) w') :
    if Region.wanted o (yielded ops a.tmps) = true then Oper.wp P o a w K Q else E := by
  have hw : Region.wanted o (yielded ops a.tmps) = true := by simp [Region.wanted, hgd]
  rw [if_pos hw]
  have hr : (execOp a.eval o).run P w = .ok (.enter f #[a.eval x]) w := by simp [execOp, ho, resolve, invoke, go_sem, eg]
  unfold Oper.wp
  rw [hr, Oper.upon_enter]
  refine Calls.mono h ?_
  rintro e w' ⟨v, rfl, k⟩
  exact k
theorem info_tnode : (Try.prog.info? 59).map (fun i => (i.zero, i.size, i.bytes)) = some (some (.agg #[.int .u8 0, .int .u8 0, .string ⟨#[]⟩, .slice none 0 0, .string ⟨#[]⟩, .slice none 0 0, .int .i64 0, .slice none 0 0]), 8, 120) := by kernel_rfl
theorem rowT_len (r : TR) : (rowT r).length = 8 := rfl
/-- 'append(l, n)', l the call's own row of nodes. -/
theorem step_T {w : World} {ops : Array Oper} {o : Oper} {a : Act} {K : Act → World → Prop} {Q : Exit → Act → World → Prop} {E : Prop} (hgd : o.guard = none) (s x : Operand)
    (ho : o.op = .call { callee := .builtin .append, args := #[s, x], argTypes := #[60, 60] })
    (base n : Nat) (v : Value) (rs : List TR) (hs : a.eval s = v) (hown : w.ownsRow base 59 8 v n (rowsT rs))
    (ad : Addr) (c : Nat) (r : TR) (hx : a.eval x = .slice (some ad) 1 c) (hnew : ∀ j, j < 8 → w.cell? (ad.add j) = (rowT r)[j]?) (hone : r.kv.oneCell' = true)
    (hlen : n + 1 ≤ 1000000000) (hbase : base ≤ w.heap.size)
    (h : ∀ v' w', w'.ownsRow base 59 8 v' (n + 1) (rowsT (rs ++ [r])) → w.grownBy w' v.ownBlock → (v'.ownBlock = v.ownBlock ∨ v'.ownBlock = some w.heap.size) → K (a.put o.dst v') w') :
    if Region.wanted o (yielded ops a.tmps) = true then Oper.wp Try.prog o a w K Q else E := by
  have hw : Region.wanted o (yielded ops a.tmps) = true := by simp [Region.wanted, hgd]
  rw [if_pos hw]
  obtain ⟨i0, hi, hz0, hz1, hz2⟩ := info_parts info_tnode
  obtain ⟨v', w', hr, h2, h3, _, h5⟩ := run_append_own_at (P := Try.prog) w base 60 o.type 59 i0 _ 8 120 Try.underlying60 hi hz0 hz1 hz2 rfl (by decide) v n (rowsT rs) hown ad 1 c (rowT r) rfl
    (fun j u hj => by
      by_cases hj8 : j < 8
      · rw [hnew j hj8, hj]
      · rw [List.getElem?_eq_none (by rw [rowT_len]; omega)] at hj; cases hj) (rowT_one r hone) (by unfold maxLen; omega) (by omega) hbase
  unfold Oper.wp execOp
  simp only [ho, resolve, invoke, builtin, Sem.run_bind, Sem.run_pure, Result.andThen_ok, List.map_toArray, List.map_cons, List.map_nil, hs, hx, hr]
  refine h v' w' ?_ h3 h5
  rw [rowsT_append]
  simpa [rowsT] using h2
/-- The tree with a new node at the end. -/
theorem TreeO.push {w w6 w7 : World} {base R : Nat} {S : Nat → Prop} {v v' : Value} {rs : List TR} {t : Dom.T} (h : TreeO w base R S v rs t) (hb : Below w.heap.size w w6) (hbase : base ≤ w.heap.size) {r : TR} {x : Dom.TN}
    (own' : w7.ownsRow base 59 8 v' (t.length + 1) (rowsT (rs ++ [r]))) (gr : w6.grownBy w7 v.ownBlock) (loc : v'.ownBlock = v.ownBlock ∨ v'.ownBlock = some w6.heap.size)
    (hfit : FitsT w6 base (fun k => S k ∨ (w.heap.size ≤ k ∧ k < w6.heap.size)) r x) (hkv : r.kv.ownBlock = none) :
    Turned w (w7.setCell ⟨R, 0, none⟩ v') base R S (t ++ [x]) := by
  have h6 := h.below hb
  have tyN : ∀ g, v.ownBlock = some g → ∃ cs, BlkW w6 g cs 59 := fun g hg => own_cells h6.own hg
  have keepF : ∀ {Q : Nat → Prop} {r : TR} {x : Dom.TN}, FitsT w6 base Q r x → (∀ k, Q k → k ≠ R ∨ True) → (∀ p, r.ad = some p → p.block ≠ R) → (∀ g, r.kv.ownBlock = some g → g ≠ R) → FitsT (w7.setCell ⟨R, 0, none⟩ v') base Q r x := by
    intro Q r x F _ ha hk
    have e1 : ∀ p, r.ad = some p → (w7.setCell ⟨R, 0, none⟩ v').heap[p.block]? = w6.heap[p.block]? := fun p hp => by
      rw [Below.heap_setCell _ _ _ _ (ha p hp)]
      refine gr.block _ (F.typ.lt p hp) fun e => ?_
      obtain ⟨cs, hc⟩ := tyN p.block e.symm
      exact F.typ.ne hc node_ne_attr p hp rfl
    exact ⟨F.kind, F.space, F.name, F.text, F.par, isA_in F.atts (S := fun k => ∃ p, r.ad = some p ∧ p.block = k) (.inr fun p hp => ⟨p, hp, rfl⟩) (by rintro k ⟨p, hp, rfl⟩; exact e1 p hp), F.typ.heap e1, F.inS, F.anil,
      own_keep F.kids fun g hg => by
        rw [Below.heap_setCell _ _ _ _ (hk g hg)]
        obtain ⟨ds, hd⟩ := own_cells F.kids hg
        refine gr.block _ hd.lt fun e => ?_
        obtain ⟨cs, hc⟩ := tyN g e.symm
        exact blk_ne hc hd node_ne_int rfl, F.kS⟩
  have hRlt : R < w.heap.size := (h.inb R h.rS).2
  have hs7 := gr.size
  have hs6 := hb.size
  have tR : BlkW w7 R #[v] 62 := (gr.block R h6.top.lt fun e => by
    obtain ⟨cs, hc⟩ := tyN R e.symm
    exact blk_ne hc h6.top node_ne_tree rfl).trans h6.top
  have v7 := own'.lt
  have nR : ∀ g, v'.ownBlock = some g → R ≠ g := fun g hg e => by
    obtain ⟨cs, hc⟩ := own_cells own' hg
    subst e
    exact blk_ne hc tR node_ne_tree rfl
  refine ⟨fun k => S k ∨ (w.heap.size ≤ k ∧ k < w7.heap.size), ⟨v', rs ++ [r], ?_, .inl h.rS, ?_, ?_, ?_, ?_, ?_, ?_⟩, ?_⟩
  · have := tR.set_ 0 v'
    exact this
  · rw [List.length_append]
    exact own_keep own' fun g hg => Below.heap_setCell _ _ _ _ (fun e => nR g hg e.symm)
  · intro g hg
    rcases loc with e | e
    · rw [e] at hg
      exact .inl (h.vS g hg)
    · have := v7 g hg
      rw [e] at hg
      have := Option.some.inj hg
      exact .inr ⟨by omega, by omega⟩
  · rw [List.length_append, List.length_append, h.len]
    rfl
  · intro i ri xi hri hxi
    by_cases hi : i < t.length
    · rw [List.getElem?_append_left (by rw [h.len]; exact hi)] at hri
      rw [List.getElem?_append_left hi] at hxi
      have F := h6.fits i ri xi hri hxi
      refine (keepF F (fun _ _ => .inr trivial) (fun p hp e => ?_) (fun g hg e => ?_)).keep (fun k hk => .inl hk) fun _ _ => rfl
      · exact F.typ.ne h6.top (by decide) p hp e
      · obtain ⟨ds, hd⟩ := own_cells F.kids hg
        subst e
        exact blk_ne hd h6.top (by decide) rfl
    · rw [List.getElem?_append_right (by rw [h.len]; omega)] at hri
      rw [List.getElem?_append_right (by omega)] at hxi
      have e0 : i - rs.length = 0 := by
        have := (List.getElem?_eq_some_iff.1 hri).1
        simp at this
        omega
      rw [e0] at hri
      rw [show i - t.length = 0 by have := h.len; omega] at hxi
      injection hri with hri
      injection hxi with hxi
      subst hri
      subst hxi
      refine (keepF hfit (fun _ _ => .inr trivial) (fun p hp e => ?_) (fun g hg e => ?_)).keep (fun k hk => hk.imp id fun q => ⟨q.1, by omega⟩) fun _ _ => rfl
      · exact hfit.typ.ne h6.top (by decide) p hp e
      · rw [hkv] at hg
        cases hg
  · intro i j ri rj hij hri hrj g hg
    by_cases hi : i < rs.length
    · rw [List.getElem?_append_left hi] at hri
      by_cases hj : j < rs.length
      · rw [List.getElem?_append_left hj] at hrj
        exact h.apart i j ri rj hij hri hrj g hg
      · rw [List.getElem?_append_right (by omega)] at hrj
        have e0 : j - rs.length = 0 := by
          have := (List.getElem?_eq_some_iff.1 hrj).1
          simp at this
          omega
        rw [e0] at hrj
        injection hrj with hrj
        subst hrj
        rw [hkv]
        exact fun e => by cases e
    · rw [List.getElem?_append_right (by omega)] at hri
      have e0 : i - rs.length = 0 := by
        have := (List.getElem?_eq_some_iff.1 hri).1
        simp at this
        omega
      rw [e0] at hri
      injection hri with hri
      subst hri
      rw [hkv] at hg
      cases hg
  · rintro k (hk | hk)
    · have := h.inb k hk
      exact ⟨this.1, by simp [World.setCell]; omega⟩
    · exact ⟨by omega, by simp [World.setCell]; exact hk.2⟩
  · refine ⟨gr.os.trans hb.os, gr.tape.trans hb.tape, gr.output.trans hb.output, by simp [World.setCell]; omega, fun k hk hn => ?_, fun k hk => hk.imp id fun q => q.1⟩
    rw [Below.heap_setCell _ _ _ _ (fun e => hn (by rw [e]; exact h.rS))]
    exact (gr.block k (by omega) fun e => hn (h.vS k e.symm)).trans (hb.block k hk)
end Go.Proofs.Ythbklcpjbeelhaa
namespace Go.Proofs.Ythbklcpjbeelhaa
open Go.RowKit Go.Lib
set_option maxRecDepth 100000
set_option linter.unusedVariables false

/-- 'append(own, x...)' of numbers, own the call's own row. -/
theorem step_Z {w : World} {ops : Array Oper} {o : Oper} {a : Act} {K : Act → World → Prop} {Q : Exit → Act → World → Prop} {E : Prop} (hgd : o.guard = none) (s x : Operand)
    (ho : o.op = .call { callee := .builtin .append, args := #[s, x], argTypes := #[48, 48] })
    (base : Nat) (v : Value) (acc : List Nat) (hs : a.eval s = v) (hown : w.ownsRow base 3 1 v acc.length (zL acc))
    (ad : Addr) (m c : Nat) (new r : List Nat) (hr : acc ++ new = r) (hx : a.eval x = .slice (some ad) m c) (hS : IsZ w (some ad) m new) (hlen : r.length ≤ 8589934592) (hbase : base ≤ w.heap.size)
    (h : ∀ v' w', w'.ownsRow base 3 1 v' r.length (zL r) → w.grownBy w' v.ownBlock → (v'.ownBlock = v.ownBlock ∨ v'.ownBlock = some w.heap.size) → K (a.put o.dst v') w') :
    if Region.wanted o (yielded ops a.tmps) = true then Oper.wp Try.prog o a w K Q else E := by
  subst hr
  have hw : Region.wanted o (yielded ops a.tmps) = true := by simp [Region.wanted, hgd]
  rw [if_pos hw]
  obtain ⟨i0, hi, hz0, hz1, hz2⟩ := info_parts info_int
  rw [List.length_append] at hlen
  obtain ⟨v', w', hr, h2, h3, _, h5⟩ := run_append_own_at (P := Try.prog) w base 48 o.type 3 i0 (.int .i64 0) 1 8 Try.underlying48 hi hz0 hz1 hz2 rfl (by decide) v acc.length (zL acc) hown ad m c (zL new) (by rw [zL_len, hS.1]; omega)
    (isZ_cells hS) (zL_one new) (by rw [← hS.1]; unfold maxLen; omega) (by rw [← hS.1]; omega) hbase
  unfold Oper.wp execOp
  simp only [ho, resolve, invoke, builtin, Sem.run_bind, Sem.run_pure, Result.andThen_ok, List.map_toArray, List.map_cons, List.map_nil, hs, hx, hr]
  refine h v' w' ?_ h3 h5
  rw [zL_append, List.length_append, hS.1]
  exact h2
/-- The tree but for the kids of i. -/
structure TreeP (w : World) (base R : Nat) (S : Nat → Prop) (v : Value) (rs : List TR) (t : Dom.T) (i : Nat) : Prop where
  top : BlkW w R #[v] 62
  rS : S R
  own : w.ownsRow base 59 8 v t.length (rowsT rs)
  vS : ∀ g, v.ownBlock = some g → S g
  len : rs.length = t.length
  fits : ∀ (k : Nat) r x, k ≠ i → rs[k]? = some r → t[k]? = some x → FitsT w base S r x
  apart : ∀ (a b : Nat) ra rb, a ≠ i → b ≠ i → a ≠ b → rs[a]? = some ra → rs[b]? = some rb → ∀ g, ra.kv.ownBlock = some g → rb.kv.ownBlock ≠ some g
theorem TreeP.cell {w : World} {base R g : Nat} {S S' : Nat → Prop} {v : Value} {rs : List TR} {t : Dom.T} {i : Nat} (h : TreeP w base R S v rs t i) (hv : v.ownBlock = some g) {j : Nat} {r r' : TR} {x' : Dom.TN} {u : Value}
    (hr : rs[i]? = some r) (hj : j < 8) (hrow : rowT r' = (rowT r).set j u) (hfit : FitsT w base S' r' x') (hS : ∀ k, S k → S' k) (hb : ∀ k, S' k → base ≤ k ∧ k < w.heap.size)
    (hap : ∀ (k : Nat) rk, k ≠ i → rs[k]? = some rk → ∀ b, rk.kv.ownBlock = some b → r'.kv.ownBlock ≠ some b) :
    TreeO (w.setCell ⟨g, i * 8 + j, none⟩ u) base R S' v (rs.set i r') (t.set i x') := by
  obtain ⟨cs, hg⟩ := own_cells h.own hv
  have hi : i < rs.length := (List.getElem?_eq_some_iff.1 hr).1
  have far : ∀ {r : TR} {x : Dom.TN}, FitsT w base S' r x → FitsT (w.setCell ⟨g, i * 8 + j, none⟩ u) base S' r x := fun {r x} F =>
    ⟨F.kind, F.space, F.name, F.text, F.par, isA_in F.atts (S := fun k => k ≠ g) (.inr fun p hp => F.typ.ne hg node_ne_attr p hp) fun k hk => Below.heap_setCell _ _ _ _ hk, F.typ.heap fun p hp => Below.heap_setCell _ _ _ _ (F.typ.ne hg node_ne_attr p hp), F.inS, F.anil,
      own_keep F.kids fun b hb => Below.heap_setCell _ _ _ _ (by obtain ⟨ds, hd⟩ := own_cells F.kids hb; exact (blk_ne hg hd node_ne_int).symm), F.kS⟩
  refine ⟨h.top.far _ _ (blk_ne hg h.top node_ne_tree), hS R h.rS, ?_, fun b hb => hS b (h.vS b hb), by rw [List.length_set, List.length_set]; exact h.len, fun k rk xk hrk hxk => ?_, fun a b ra rb hab hra hrb c hc => ?_, fun k hk => by have := hb k hk; exact ⟨this.1, by simp [World.setCell]; exact this.2⟩⟩
  · rw [rowsT_set hr hj hrow, List.length_set]
    exact own_set h.own hv _ u
  · rw [List.getElem?_set] at hrk hxk
    split at hrk
    · rename_i e
      subst e
      rw [if_pos rfl, if_pos (by rw [← h.len]; exact hi)] at hxk
      injection hrk with hrk
      injection hxk with hxk
      subst hrk
      subst hxk
      exact far hfit
    · rename_i e
      rw [if_neg e] at hxk
      exact far ((h.fits k rk xk (fun e2 => e e2.symm) hrk hxk).keep hS fun _ _ => rfl)
  · rw [List.getElem?_set] at hra hrb
    split at hra
    · rename_i e
      subst e
      injection hra with hra
      subst hra
      rw [if_neg hab] at hrb
      intro e2
      exact hap b rb (fun e3 => hab e3.symm) hrb c e2 hc
    · split at hrb
      · rename_i e1 e
        subst e
        injection hrb with hrb
        subst hrb
        exact hap a ra hab hra c hc
      · rename_i e1 e2
        exact h.apart a b ra rb (fun e3 => e1 e3.symm) (fun e3 => e2 e3.symm) hab hra hrb c hc
/-- A node's own kid list is written, or grown: the rest of the tree stands. -/
theorem TreeO.grownP {w w' : World} {base R : Nat} {S : Nat → Prop} {v : Value} {rs : List TR} {t : Dom.T} (h : TreeO w base R S v rs t) {i : Nat} {r : TR} {x : Dom.TN} (hr : rs[i]? = some r) (hx : t[i]? = some x) (gr : w.grownBy w' r.kv.ownBlock) : TreeP w' base R S v rs t i := by
  have F0 := h.fits i r x hr hx
  have ty : ∀ {b : Nat} {cs : Array Value} {T : TypeId}, BlkW w b cs T → T ≠ 3 → w'.heap[b]? = w.heap[b]? := fun {b cs T} hb hT => gr.block b hb.lt fun e => by
    obtain ⟨ds, hd⟩ := own_cells F0.kids e.symm
    exact blk_ne hb hd hT rfl
  have tyA : ∀ {ad : Option Addr}, TypB w ad → ∀ p, ad = some p → w'.heap[p.block]? = w.heap[p.block]? := fun {ad} ha p hp => gr.block p.block (ha.lt p hp) fun e => by
    obtain ⟨ds, hd⟩ := own_cells F0.kids e.symm
    exact ha.ne hd (by decide) p hp rfl
  refine ⟨(ty h.top (by decide)).trans h.top, h.rS, own_keep h.own fun g hg => ?_, h.vS, h.len, fun k rk xk hk hrk hxk => ?_, fun a b ra rb ha hb hab hra hrb => h.apart a b ra rb hab hra hrb⟩
  · obtain ⟨cs, hc⟩ := own_cells h.own hg
    exact ty hc node_ne_int
  · have F := h.fits k rk xk hrk hxk
    exact ⟨F.kind, F.space, F.name, F.text, F.par, isA_in F.atts (S := fun k => ∃ p, rk.ad = some p ∧ p.block = k) (.inr fun p hp => ⟨p, hp, rfl⟩) (by rintro k ⟨p, hp, rfl⟩; exact tyA F.typ p hp), F.typ.heap (tyA F.typ), F.inS, F.anil,
      own_keep F.kids fun g hg => by
        obtain ⟨ds, hd⟩ := own_cells F.kids hg
        exact gr.block g hd.lt fun e => h.apart i k r rk (fun e2 => hk e2.symm) hr hrk g e.symm hg, F.kS⟩
/-- Its kids are the grown row. -/
theorem TreeO.grow {w w' : World} {base R g : Nat} {S : Nat → Prop} {v : Value} {rs : List TR} {t : Dom.T} (h : TreeO w base R S v rs t) (hv : v.ownBlock = some g) {i : Nat} {r : TR} {x : Dom.TN} (hr : rs[i]? = some r) (hx : t[i]? = some x) (hbase : base ≤ w.heap.size)
    (kv : Value) (l : List Nat) (own' : w'.ownsRow base 3 1 kv l.length (zL l)) (gr : w.grownBy w' r.kv.ownBlock) (loc : kv.ownBlock = r.kv.ownBlock ∨ kv.ownBlock = some w.heap.size) :
    Turned w (w'.setCell ⟨g, i * 8 + 7, none⟩ kv) base R S (Dom.upd t i fun x => { x with kids := l }) := by
  have F0 := h.fits i r x hr hx
  have hP := h.grownP hr hx gr
  have tyA : ∀ p, r.ad = some p → w'.heap[p.block]? = w.heap[p.block]? := fun p hp => gr.block p.block (F0.typ.lt p hp) fun e => by
    obtain ⟨ds, hd⟩ := own_cells F0.kids e.symm
    exact F0.typ.ne hd (by decide) p hp rfl
  have hlt := own'.lt
  have hs := gr.size
  have hC := hP.cell (S' := fun k => S k ∨ (w.heap.size ≤ k ∧ k < w'.heap.size)) (r' := { r with kv := kv }) (x' := { x with kids := l }) (u := kv) hv hr (j := 7) (by decide) rfl
    ⟨F0.kind, F0.space, F0.name, F0.text, F0.par, isA_in F0.atts (S := fun k => ∃ p, r.ad = some p ∧ p.block = k) (.inr fun p hp => ⟨p, hp, rfl⟩) (by rintro k ⟨p, hp, rfl⟩; exact tyA p hp), F0.typ.heap tyA, fun p hp => .inl (F0.inS p hp), F0.anil, own', fun b hb => by
      rcases loc with e | e
      · rw [e] at hb
        exact .inl (F0.kS b hb)
      · have hb2 := hb
        rw [e] at hb
        have := Option.some.inj hb
        have := hlt b hb2
        exact .inr ⟨by omega, by omega⟩⟩ (fun _ e => .inl e) (fun k hk => hk.elim (fun e => by have := h.inb k e; exact ⟨this.1, by omega⟩) fun e => ⟨by omega, e.2⟩) (fun k rk hk hrk b hb e => by
      obtain ⟨xk, hxk⟩ : ∃ x, t[k]? = some x := ⟨_, List.getElem?_eq_getElem (by rw [← h.len]; exact (List.getElem?_eq_some_iff.1 hrk).1)⟩
      have Fk := h.fits k rk xk hrk hxk
      rcases loc with e1 | e1
      · rw [e1] at e
        exact h.apart k i rk r hk hrk hr b hb e
      · rw [e1] at e
        have := Option.some.inj e
        have := Fk.kids.lt b hb
        omega)
  rw [upd_set hx]
  refine ⟨_, ⟨v, _, hC⟩, ?_⟩
  exact (Turn.mk (S := S) (S' := fun k => S k ∨ (w.heap.size ≤ k ∧ k < w'.heap.size)) gr.os gr.tape gr.output gr.size (fun k hk hn => gr.block k hk fun e => hn (F0.kS k e.symm)) (fun k hk => hk.imp id fun q => q.1)).set _ _ (.inl (h.vS g hv))
theorem TreeO.drew {w : World} {base R : Nat} {S : Nat → Prop} {v : Value} {rs : List TR} {t : Dom.T} (h : TreeO w base R S v rs t) : TreeO w.drew base R S v rs t := h.keep (fun _ e => e) (fun _ _ => rfl) h.inb
theorem Turn.drew {S S' : Nat → Prop} {w w' : World} (h : Turn S S' w w') : Turn S S' w w'.drew := ⟨h.os, h.tape, h.output, h.size, h.block, h.sub⟩
/-- The parents of some, one by one. -/
def parsT (b : Int) (u : Dom.T) (l : List Nat) : Dom.T := l.foldl (fun v k => Dom.upd v k fun x => { x with par := b }) u
theorem parsT_snoc (b : Int) (u : Dom.T) (l : List Nat) (k : Nat) : parsT b u (l ++ [k]) = Dom.upd (parsT b u l) k fun x => { x with par := b } := by
  unfold parsT
  rw [List.foldl_append]
  rfl
theorem parsT_len (b : Int) : ∀ (l : List Nat) (u : Dom.T), (parsT b u l).length = u.length
  | [], u => rfl
  | k :: r, u => by
    show (parsT b (Dom.upd u k _) r).length = _
    rw [parsT_len b r, Dom.upd_len]
theorem parsT_kids (b : Int) : ∀ (l : List Nat) (u : Dom.T), (∀ k ∈ l, k < u.length) → ∀ j, Dom.kidsAt (parsT b u l) j = Dom.kidsAt u j
  | [], u, _, j => rfl
  | k :: r, u, h, j => by
    show Dom.kidsAt (parsT b (Dom.upd u k _) r) j = _
    rw [parsT_kids b r _ (fun x hx => by rw [Dom.upd_len]; exact h x (List.mem_cons_of_mem _ hx))]
    unfold Dom.kidsAt
    rw [Dom.upd_at _ _ _ (h k (List.mem_cons_self ..))]
    split
    · rename_i e; rw [e]
    · rfl
end Go.Proofs.Ythbklcpjbeelhaa
