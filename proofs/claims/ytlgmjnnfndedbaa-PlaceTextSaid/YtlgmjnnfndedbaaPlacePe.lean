/- The program's World of layer 13 in memory: as XPlaceM has it, but for the row of what is open, which may be a cut of an own row (nothing is written there, so nothing is asked of what stands behind it). Steps over rows of open elements that are cut and appended to. -/
import Derived.Test.YtlgmjnnfndedbaaRefWhole
import Derived.Test.YtlgmjnnfndedbaaDomM
import Derived.Test.YtlgmjnnfndedbaaPlaceRi
import Derived.Laws.OwnMore
import Derived.ArgAppend
namespace Go.Proofs.Ytlgmjnnfndedbaa
open Go.RowKit Go.Lib
set_option maxRecDepth 100000
set_option linter.unusedVariables false
theorem dpc_dom : DPC DomK := ⟨domM_all.keep, domM_all.inb⟩
/-- Open elements in a row of the World's own, or in a cut of one. -/
def OpW (w : World) (base : Nat) (v : Value) (l : List Opn.E) : Prop := ∃ g cap c, v = .slice (some ⟨g, 0, none⟩) l.length cap ∧ l.length ≤ cap ∧ cap ≤ c ∧ w.ownsRow base 36 4 (.slice (some ⟨g, 0, none⟩) l.length c) l.length (eL l)
theorem OpW.keep {w w' : World} {base : Nat} {v : Value} {l : List Opn.E} (h : OpW w base v l) (hk : ∀ g, v.ownBlock = some g → w'.heap[g]? = w.heap[g]?) : OpW w' base v l := by
  obtain ⟨g, cap, c, rfl, h1, h2, h3⟩ := h
  exact ⟨g, cap, c, rfl, h1, h2, own_keep h3 hk⟩
theorem OpW.ge {w : World} {base : Nat} {v : Value} {l : List Opn.E} (h : OpW w base v l) : ∀ k, v.ownBlock = some k → base ≤ k := by
  obtain ⟨g, cap, c, rfl, h1, h2, h3⟩ := h
  exact fun k e => own_ge h3 k e
theorem OpW.lt {w : World} {base : Nat} {v : Value} {l : List Opn.E} (h : OpW w base v l) : ∀ k, v.ownBlock = some k → k < w.heap.size := by
  obtain ⟨g, cap, c, rfl, h1, h2, h3⟩ := h
  intro k e
  obtain ⟨cs, hc⟩ := own_cells h3 e
  exact hc.lt
theorem OpW.of {w : World} {base : Nat} {v : Value} {l : List Opn.E} (h : w.ownsRow base 36 4 v l.length (eL l)) (hl : l.length ≠ 0) : OpW w base v l := by
  obtain ⟨g, cap, rfl, hc⟩ := own_addr h hl
  exact ⟨g, cap, cap, rfl, hc, Nat.le_refl _, h⟩
theorem OpW.down {w : World} {base base' : Nat} {v : Value} {l : List Opn.E} (h : OpW w base v l) (hb : base' ≤ base) : OpW w base' v l := by
  obtain ⟨g, cap, c, rfl, h1, h2, h3⟩ := h
  refine ⟨g, cap, c, rfl, h1, h2, ?_⟩
  obtain ⟨q, q2⟩ := h3
  exact ⟨q, q2.imp (fun e => e) fun ⟨g', cap, cur, a1, a2, a3⟩ => ⟨g', cap, cur, a1, by omega, a3⟩⟩
theorem OpW.view {w : World} {base : Nat} {v : Value} {l : List Opn.E} (h : OpW w base v l) : ∃ g cap, v = .slice (some ⟨g, 0, none⟩) l.length cap ∧ l.length ≤ cap ∧ cap ≤ 9223372036854775807 ∧ IsE w (some ⟨g, 0, none⟩) l.length l := by
  obtain ⟨g, cap, c, rfl, h1, h2, h3⟩ := h
  obtain ⟨a, c', e, q1, q2, q3⟩ := own_isE h3
  cases e
  exact ⟨g, cap, rfl, h1, by unfold maxLen at q3; omega, q1⟩
/-- A cut of it, with no more room than asked. -/
theorem OpW.take_ {w : World} {base g cap : Nat} {l : List Opn.E} {n : Nat} (h : OpW w base (.slice (some ⟨g, 0, none⟩) n cap) l) (hl : l.length = n) {k c : Nat} (hk : k ≤ n) (hkc : k ≤ c) (hc : c ≤ cap) : OpW w base (.slice (some ⟨g, 0, none⟩) k c) (l.take k) := by
  obtain ⟨g', cap', c', e, h1, h2, h3⟩ := h
  cases e
  have ht : (l.take k).length = k := by rw [List.length_take]; omega
  refine ⟨g, c, c', by rw [ht], by rw [ht]; exact hkc, by omega, ?_⟩
  rw [ht]
  obtain ⟨q1, ⟨q2, _⟩ | ⟨g', cap, cur, e, hb, hg, hn, hcm, hcs, htk⟩⟩ := h3
  · cases q2
  · cases e
    refine ⟨by rw [eL_len, ht], .inr ⟨g, c', cur, rfl, hb, hg, by omega, hcm, hcs, ?_⟩⟩
    have e2 : eL l = eL (l.take k) ++ eL (l.drop k) := by rw [← eL_append, List.take_append_drop]
    have h3 : (eL (l.take k)).length = k * 4 := by rw [eL_len, ht]
    have h4 : cur.toList.take (k * 4) = (cur.toList.take (l.length * 4)).take (k * 4) := by rw [List.take_take]; congr 1; omega
    rw [h4, htk, e2, ← h3, List.take_left]
/-- The World at R. -/
structure WorldP (DP : TreeP13) (T : TypeId) (w0 w : World) (R : Nat) (S : Nat → Prop) (s : Plc.St) (Rt : Nat) (ov mv : Value) (rs : List MR) (St : Nat → Prop) : Prop where
  top : BlkW w R #[.pointer (some ⟨Rt, 0, none⟩), ov, mv, .bool s.fo, .int .i64 s.hi] T
  tree : DP w w0.heap.size Rt St s.t
  op : OpW w w0.heap.size ov s.op
  mrk : w.ownsRow w0.heap.size 39 3 mv rs.length (mL rs)
  at_ : AttsM w0 rs s.ms
  inS : ∀ k, S k ↔ k = R ∨ St k ∨ ov.ownBlock = some k ∨ mv.ownBlock = some k
  inb : ∀ k, S k → w0.heap.size ≤ k ∧ k < w.heap.size
  aR : ¬ St R ∧ ov.ownBlock ≠ some R ∧ mv.ownBlock ≠ some R
  aO : ∀ k, ov.ownBlock = some k → ¬ St k ∧ mv.ownBlock ≠ some k
  aM : ∀ k, mv.ownBlock = some k → ¬ St k
def WorldPX (DP : TreeP13) (T : TypeId) (w0 w : World) (R : Nat) (S : Nat → Prop) (s : Plc.St) : Prop := ∃ Rt ov mv rs St, WorldP DP T w0 w R S s Rt ov mv rs St
/-- What a call leaves that writes the World. -/
def PTurned (DP : TreeP13) (T : TypeId) (w0 w w' : World) (R : Nat) (S : Nat → Prop) (s : Plc.St) : Prop := ∃ S', WorldPX DP T w0 w' R S' s ∧ Turn S S' w w'
section
variable {DP : TreeP13} {T : TypeId} {w0 w w' : World} {R Rt : Nat} {S S' St : Nat → Prop} {s : Plc.St} {ov mv : Value} {rs : List MR}
theorem WorldP.rS (h : WorldP DP T w0 w R S s Rt ov mv rs St) : S R := (h.inS R).2 (.inl rfl)
theorem WorldP.ge (h : WorldP DP T w0 w R S s Rt ov mv rs St) : w0.heap.size ≤ R ∧ R < w.heap.size := h.inb R h.rS
/-- It stands where its blocks stand as they stood. -/
theorem WorldP.keep (H : DPC DP) (h : WorldP DP T w0 w R S s Rt ov mv rs St) {Q Q' : Nat → Prop} (hT : Turn Q Q' w w') (hd : ∀ k, S k → ¬ Q k) : WorldP DP T w0 w' R S s Rt ov mv rs St := by
  have hk : ∀ k, S k → w'.heap[k]? = w.heap[k]? := fun k e => hT.block k (h.inb k e).2 (hd k e)
  exact ⟨(hk R h.rS).trans h.top, H.keep h.tree hT fun k e => hd k ((h.inS k).2 (.inr (.inl e))), h.op.keep fun g e => hk g ((h.inS g).2 (.inr (.inr (.inl e)))), own_keep h.mrk fun g e => hk g ((h.inS g).2 (.inr (.inr (.inr e)))),
    h.at_, h.inS, fun k e => ⟨(h.inb k e).1, Nat.lt_of_lt_of_le (h.inb k e).2 hT.size⟩, h.aR, h.aO, h.aM⟩
theorem WorldP.below (H : DPC DP) (h : WorldP DP T w0 w R S s Rt ov mv rs St) (hb : Below w.heap.size w w') : WorldP DP T w0 w' R S s Rt ov mv rs St :=
  h.keep H (Q := fun _ => False) (Q' := fun _ => False) ⟨hb.os, hb.tape, hb.output, hb.size, fun k hk _ => hb.block k hk, fun _ e => .inl e⟩ (fun _ _ e => e)
/-- The tree has turned. -/
theorem WorldP.tree_ (H : DPC DP) (h : WorldP DP T w0 w R S s Rt ov mv rs St) {St' : Nat → Prop} {u : Dom.T} (hu : DP w' w0.heap.size Rt St' u) (hT : Turn St St' w w') :
    ∃ S', WorldP DP T w0 w' R S' { s with t := u } Rt ov mv rs St' ∧ Turn S S' w w' := by
  have hsub : ∀ k, St k → S k := fun k e => (h.inS k).2 (.inr (.inl e))
  have hk : ∀ k, S k → ¬ St k → w'.heap[k]? = w.heap[k]? := fun k e n => hT.block k (h.inb k e).2 n
  have hlt : ∀ k, S k → k < w.heap.size := fun k e => (h.inb k e).2
  have hn : ∀ k, S k → ¬ St k → ¬ St' k := fun k e n e' => (hT.sub k e').elim n fun g => by have := hlt k e; omega
  have so : ∀ k, ov.ownBlock = some k → S k := fun k e => (h.inS k).2 (.inr (.inr (.inl e)))
  have sm : ∀ k, mv.ownBlock = some k → S k := fun k e => (h.inS k).2 (.inr (.inr (.inr e)))
  refine ⟨fun k => k = R ∨ St' k ∨ ov.ownBlock = some k ∨ mv.ownBlock = some k, ⟨(hk R h.rS h.aR.1).trans h.top, hu, h.op.keep fun g e => hk g (so g e) (h.aO g e).1, own_keep h.mrk fun g e => hk g (sm g e) (h.aM g e), h.at_, fun _ => Iff.rfl, fun k e => ?_,
    ⟨hn R h.rS h.aR.1, h.aR.2⟩, fun k e => ⟨hn k (so k e) (h.aO k e).1, (h.aO k e).2⟩, fun k e => hn k (sm k e) (h.aM k e)⟩,
    ⟨hT.os, hT.tape, hT.output, hT.size, fun k hk' hn' => hT.block k hk' fun e => hn' (hsub k e), fun k e => ?_⟩⟩
  · have hz := hT.size
    rcases e with e | e | e | e
    · subst e; have := h.inb k h.rS; omega
    · exact H.inb hu k e
    · have := h.inb k (so k e); omega
    · have := h.inb k (sm k e); omega
  · rcases e with e | e | e | e
    · subst e; exact .inl h.rS
    · exact (hT.sub k e).imp (hsub k) id
    · exact .inl (so k e)
    · exact .inl (sm k e)
/-- What is open has turned: another row, in the old one's block or in a new one. -/
theorem WorldP.open_ (H : DPC DP) (h : WorldP DP T w0 w R S s Rt ov mv rs St) {nv : Value} {l : List Opn.E} (hg : Below w.heap.size w w') (ho : OpW w' w0.heap.size nv l)
    (hloc : ∀ k, nv.ownBlock = some k → ov.ownBlock = some k ∨ w.heap.size ≤ k) :
    ∃ S', WorldP DP T w0 (w'.setCell ⟨R, 1, none⟩ nv) R S' { s with op := l } Rt nv mv rs St ∧ Turn S S' w (w'.setCell ⟨R, 1, none⟩ nv) := by
  have so : ∀ k, ov.ownBlock = some k → S k := fun k e => (h.inS k).2 (.inr (.inr (.inl e)))
  have sm : ∀ k, mv.ownBlock = some k → S k := fun k e => (h.inS k).2 (.inr (.inr (.inr e)))
  have st : ∀ k, St k → S k := fun k e => (h.inS k).2 (.inr (.inl e))
  have hlt : ∀ k, S k → k < w.heap.size := fun k e => (h.inb k e).2
  have hset : ∀ k, k ≠ R → (w'.setCell ⟨R, 1, none⟩ nv).heap[k]? = w'.heap[k]? := fun k n => Below.heap_setCell _ _ _ _ n
  have hR : nv.ownBlock ≠ some R := fun e => (hloc R e).elim h.aR.2.1 fun g => by have := hlt R h.rS; omega
  have hT2 : Turn (fun k => k = R) (fun k => k = R) w (w'.setCell ⟨R, 1, none⟩ nv) :=
    ⟨hg.os, hg.tape, hg.output, by simpa [World.setCell] using hg.size, fun k hk' hn => (hset k hn).trans (hg.block k hk'), fun k e => .inl e⟩
  refine ⟨fun k => k = R ∨ St k ∨ nv.ownBlock = some k ∨ mv.ownBlock = some k, ⟨?_, H.keep h.tree hT2 fun k e a => h.aR.1 (a ▸ e), ho.keep fun g e => hset g fun e' => hR (e' ▸ e), ?_, h.at_, fun _ => Iff.rfl, fun k e => ?_,
    ⟨h.aR.1, hR, h.aR.2.2⟩, fun k e => ?_, h.aM⟩, ⟨hT2.os, hT2.tape, hT2.output, hT2.size, fun k hk' hn => hT2.block k hk' fun a => hn (a ▸ h.rS), fun k e => ?_⟩⟩
  · exact ((show BlkW w' R _ T from (hg.block R (hlt R h.rS)).trans h.top)).set_ 1 nv
  · exact own_keep h.mrk fun g e => (hset g fun e' => h.aR.2.2 (e' ▸ e)).trans (hg.block g (hlt g (sm g e)))
  · have hz := hT2.size
    rcases e with e | e | e | e
    · subst e; have := h.inb k h.rS; omega
    · have := h.inb k (st k e); omega
    · refine ⟨ho.ge k e, ?_⟩
      have := ho.lt k e
      show k < (w'.setCell ⟨R, 1, none⟩ nv).heap.size
      simpa [World.setCell] using this
    · have := h.inb k (sm k e); omega
  · rcases hloc k e with e' | e'
    · exact h.aO k e'
    · exact ⟨fun a => by have := hlt k (st k a); omega, fun a => by have := hlt k (sm k a); omega⟩
  · rcases e with e | e | e | e
    · subst e; exact .inl h.rS
    · exact .inl (st k e)
    · exact (hloc k e).imp (so k) id
    · exact .inl (sm k e)
/-- A field that holds a flag or a number. -/
theorem WorldP.foster_ (H : DPC DP) (h : WorldP DP T w0 w R S s Rt ov mv rs St) (b : Bool) : WorldP DP T w0 (w.setCell ⟨R, 3, none⟩ (.bool b)) R S { s with fo := b } Rt ov mv rs St ∧ Turn S S w (w.setCell ⟨R, 3, none⟩ (.bool b)) := by
  have hset : ∀ k, k ≠ R → (w.setCell ⟨R, 3, none⟩ (.bool b)).heap[k]? = w.heap[k]? := fun k n => Below.heap_setCell _ _ _ _ n
  have hT : Turn (fun k => k = R) (fun k => k = R) w (w.setCell ⟨R, 3, none⟩ (.bool b)) := (Turn.refl _ w).set _ _ (.inl rfl)
  refine ⟨⟨h.top.set_ 3 _, H.keep h.tree hT fun k e a => h.aR.1 (a ▸ e), h.op.keep fun g e => hset g fun a => h.aR.2.1 (a ▸ e), own_keep h.mrk fun g e => hset g fun a => h.aR.2.2 (a ▸ e), h.at_, h.inS, fun k e => ?_, h.aR, h.aO, h.aM⟩, (Turn.refl S w).set _ _ (.inl h.rS)⟩
  have := h.inb k e
  exact ⟨this.1, by simpa [World.setCell] using this.2⟩
theorem WorldP.high_ (H : DPC DP) (h : WorldP DP T w0 w R S s Rt ov mv rs St) (n : Nat) : WorldP DP T w0 (w.setCell ⟨R, 4, none⟩ (.int .i64 n)) R S { s with hi := n } Rt ov mv rs St ∧ Turn S S w (w.setCell ⟨R, 4, none⟩ (.int .i64 n)) := by
  have hset : ∀ k, k ≠ R → (w.setCell ⟨R, 4, none⟩ (.int .i64 n)).heap[k]? = w.heap[k]? := fun k n => Below.heap_setCell _ _ _ _ n
  have hT : Turn (fun k => k = R) (fun k => k = R) w (w.setCell ⟨R, 4, none⟩ (.int .i64 n)) := (Turn.refl _ w).set _ _ (.inl rfl)
  refine ⟨⟨h.top.set_ 4 _, H.keep h.tree hT fun k e a => h.aR.1 (a ▸ e), h.op.keep fun g e => hset g fun a => h.aR.2.1 (a ▸ e), own_keep h.mrk fun g e => hset g fun a => h.aR.2.2 (a ▸ e), h.at_, h.inS, fun k e => ?_, h.aR, h.aO, h.aM⟩, (Turn.refl S w).set _ _ (.inl h.rS)⟩
  have := h.inb k e
  exact ⟨this.1, by simpa [World.setCell] using this.2⟩
theorem PTurned.of (hM : WorldP DP T w0 w' R S' s Rt ov mv rs St) (hT : Turn S S' w w') : PTurned DP T w0 w w' R S s := ⟨S', ⟨_, _, _, _, _, hM⟩, hT⟩
theorem WorldP.cells (h : WorldP DP T w0 w R S s Rt ov mv rs St) :
    w.cell? ⟨R, 0, none⟩ = some (.pointer (some ⟨Rt, 0, none⟩)) ∧ w.cell? ⟨R, 1, none⟩ = some ov ∧ w.cell? ⟨R, 2, none⟩ = some mv ∧ w.cell? ⟨R, 3, none⟩ = some (.bool s.fo) ∧ w.cell? ⟨R, 4, none⟩ = some (.int .i64 s.hi) :=
  ⟨h.top.cell 0, h.top.cell 1, h.top.cell 2, h.top.cell 3, h.top.cell 4⟩
end
end Go.Proofs.Ytlgmjnnfndedbaa
namespace Go.Proofs.Ytlgmjnnfndedbaa
open Go.RowKit Go.Lib
set_option maxRecDepth 100000
set_option linter.unusedVariables false
theorem isE_cells {w : World} {ad : Addr} {n : Nat} {l : List Opn.E} (h : IsE w (some ad) n l) : ∀ j u, (eL l)[j]? = some u → w.cell? (ad.add j) = some u := by
  intro j u hj
  obtain ⟨hll, h0 | ⟨b', off', e, hat⟩⟩ := h
  · have := (List.getElem?_eq_some_iff.1 hj).1
    rw [eL_len] at this
    omega
  · cases e
    have hlt := (List.getElem?_eq_some_iff.1 hj).1
    rw [eL_len] at hlt
    obtain ⟨i, r, rfl, hr⟩ : ∃ i r, j = i * 4 + r ∧ r < 4 := ⟨j / 4, j % 4, by omega, by omega⟩
    obtain ⟨x, hx⟩ : ∃ x, l[i]? = some x := ⟨_, List.getElem?_eq_getElem (show i < l.length by omega)⟩
    obtain ⟨g0, g1, g2, g3⟩ := eL_get l i x hx
    obtain ⟨c0, c1, c2, c3⟩ := hat i x hx
    rw [addr_add]
    rw [← Nat.add_assoc]
    rcases show r = 0 ∨ r = 1 ∨ r = 2 ∨ r = 3 by omega with rfl | rfl | rfl | rfl
    · rw [Nat.add_zero] at hj
      rw [g0] at hj
      cases hj
      exact c0
    · rw [g1] at hj
      cases hj
      exact c1
    · rw [g2] at hj
      cases hj
      exact c2
    · rw [g3] at hj
      cases hj
      exact c3
/-- 'append(full, x)': a new row. -/
theorem step_growE {w : World} {ops : Array Oper} {o : Oper} {a : Act} {K : Act → World → Prop} {Q : Exit → Act → World → Prop} {E : Prop} (hgd : o.guard = none) (s y : Operand)
    (ho : o.op = .call { callee := .builtin .append, args := #[s, y], argTypes := #[43, 43] })
    (ad : Addr) (n : Nat) (l : List Opn.E) (hR : IsE w (some ad) n l) (hs : a.eval s = .slice (some ad) n n)
    (g c : Nat) (x : Opn.E) (hx : a.eval y = .slice (some ⟨g, 0, none⟩) 1 c) (hnew : BlkW w g #[.int .i64 x.id, .int .u8 x.space, .string (bs x.name), .int .u8 x.point] 36)
    (hlen : n + 1 ≤ 4294967296)
    (h : ∀ v' w', w'.ownsRow w.heap.size 36 4 v' (l ++ [x]).length (eL (l ++ [x])) → Below w.heap.size w w' → K (a.put o.dst v') w') :
    if Region.wanted o (yielded ops a.tmps) = true then Oper.wp Try.prog o a w K Q else E := by
  have hw : Region.wanted o (yielded ops a.tmps) = true := by simp [Region.wanted, hgd]
  rw [if_pos hw]
  obtain ⟨i0, hi, hz0, hz1, hz2⟩ := info_parts info_open
  obtain ⟨v', w', hrun, r1, r2⟩ := run_append_arg_grows (P := Try.prog) (w := w) 43 o.type 36 i0 (.agg #[.int .i64 0, .int .u8 0, .string ⟨#[]⟩, .int .u8 0]) 4 40 Try.underlying43 hi hz0 hz1 hz2 rfl (by decide) ad n n (eL l) (by rw [eL_len, hR.1]) (isE_cells hR) ⟨g, 0, none⟩ 1 c (eL [x]) rfl
    (by
      intro j u hj
      rw [addr_add, Nat.zero_add, hnew.cell]
      rw [show eL [x] = [.int .i64 x.id, .int .u8 x.space, .string (bs x.name), .int .u8 x.point] from rfl] at hj
      simpa using hj) (by omega) (by unfold maxLen; omega) (by omega)
  unfold Oper.wp execOp
  simp only [ho, resolve, invoke, builtin, Sem.run_bind, Sem.run_pure, Result.andThen_ok, List.map_toArray, List.map_cons, List.map_nil, hs, hx, hrun]
  refine h v' w' ?_ ((Below.refl w.heap.size w).grown r2 (Nat.le_refl _) (fun k e => by cases e))
  rw [List.length_append, eL_append, hR.1]
  exact r1
/-- 'slices.Clip' of a row. -/
theorem pclip_any (ad : Option Addr) (n c : Nat) (w : World) (h1 : n ≤ c) (h2 : c ≤ 9223372036854775807) :
    Calls Try.prog 36 #[.slice ad n c] w fun e w' => e = .returned (.slice ad n n) ∧ w' = w := by
  have hI : (n : Int) ≤ (c : Int) := by omega
  have h0 : (0 : Int) ≤ (n : Int) := by omega
  go_enter Try.func36, Try.ntmps36
  go_wp2
  go_ret

  exact ⟨rfl, rfl⟩
end Go.Proofs.Ytlgmjnnfndedbaa
