/- Plain Lean: the chapter's example of layer 13. Walks over package tympanlaw13: the chapter's example. -/
import Derived.Test.YtlgmjnnfndedbaaPlaceHo
import Derived.Test.YtlgmjnnfndedbaaLinkW
import Derived.Test.YtlgmjnnfndedbaaPlacePj
import Derived.Test.YtlgmjnnfndedbaaPlacePd
import Derived.Test.YtlgmjnnfndedbaaPlaceRr
import Derived.Test.YtlgmjnnfndedbaaMarkM
import Derived.Test.YtlgmjnnfndedbaaRangeL
import Derived.Test.YtlgmjnnfndedbaaPlacePv
import Derived.Deep.LoopGhost
import Derived.IntWalk
import Derived.BigCall
import Derived.Scope
namespace Go.Proofs.Ytlgmjnnfndedbaa
open Go.Lib
set_option maxRecDepth 100000
set_option linter.unusedVariables false
namespace Plc
def bN : List UInt8 := [98]
def trN : List UInt8 := [116, 114]
def nR : Dom.N := .mk 0 0 [] [] [] []
def nT : Dom.N := .mk 1 0 tblN [] [] []
def nRow : Dom.N := .mk 1 0 trN [] [] []
def nX : Dom.N := .mk 2 0 [] [] [120] []
def nB : Dom.N := .mk 1 0 bN [] [] []
def nY : Dom.N := .mk 2 0 [] [] [121] []
def oT : Opn.E := ⟨1, 0, tblN, 0⟩
def oR : Opn.E := ⟨2, 0, trN, 0⟩
def oB : Opn.E := ⟨4, 0, bN, 0⟩
def A1 : Dom.T := [⟨nR, -1, []⟩, ⟨nT, -1, []⟩]
def A2 : Dom.T := [⟨nR, -1, [1]⟩, ⟨nT, 0, []⟩]
def A3 : Dom.T := [⟨nR, -1, [1]⟩, ⟨nT, 0, []⟩, ⟨nRow, -1, []⟩]
def A4 : Dom.T := [⟨nR, -1, [1]⟩, ⟨nT, 0, [2]⟩, ⟨nRow, 1, []⟩]
def A5 : Dom.T := [⟨nR, -1, [1]⟩, ⟨nT, 0, [2]⟩, ⟨nRow, 1, []⟩, ⟨nX, -1, []⟩]
def A6 : Dom.T := [⟨nR, -1, [3, 1]⟩, ⟨nT, 0, [2]⟩, ⟨nRow, 1, []⟩, ⟨nX, 0, []⟩]
def A7 : Dom.T := [⟨nR, -1, [3, 1]⟩, ⟨nT, 0, [2]⟩, ⟨nRow, 1, []⟩, ⟨nX, 0, []⟩, ⟨nB, -1, []⟩]
def A8 : Dom.T := [⟨nR, -1, [3, 1]⟩, ⟨nT, 0, [2]⟩, ⟨nRow, 1, [4]⟩, ⟨nX, 0, []⟩, ⟨nB, 2, []⟩]
def A9 : Dom.T := [⟨nR, -1, [3, 1]⟩, ⟨nT, 0, [2]⟩, ⟨nRow, 1, [4]⟩, ⟨nX, 0, []⟩, ⟨nB, 2, []⟩, ⟨nY, -1, []⟩]
def A10 : Dom.T := [⟨nR, -1, [3, 1]⟩, ⟨nT, 0, [2]⟩, ⟨nRow, 1, [4]⟩, ⟨nX, 0, []⟩, ⟨nB, 2, [5]⟩, ⟨nY, 4, []⟩]
def Z1 : St := ⟨A2, [root0, oT], [], false, 2⟩
def Z2 : St := ⟨A4, [root0, oT, oR], [], false, 3⟩
def Z3 : St := ⟨A4, [root0, oT, oR], [], true, 3⟩
def Z4 : St := ⟨A6, [root0, oT, oR], [], true, 3⟩
def Z5 : St := ⟨A6, [root0, oT, oR], [], false, 3⟩
def Z6 : St := ⟨A8, [root0, oT, oR, oB], [], false, 4⟩
def Z7 : St := ⟨A10, [root0, oT, oR, oB], [], false, 4⟩
theorem ga1 : Dom.Good A1 := Dom.good_make Dom.good_new nT
theorem pa1 : Dom.putT A1 0 (-1) 1 = (A2, true) :=
  (put_new (t := A1) ga1 (i := 1) (p := 0) (b := -1) (by decide) (by decide) ⟨by decide, .inl rfl⟩ (by decide) (by decide) (by decide) rfl rfl).trans rfl
theorem z1_is : ins new 0 tblN [] = Z1 := by
  show (⟨(Dom.putT A1 0 (-1) 1).1, [root0, oT], [], false, 2⟩ : St) = Z1
  rw [pa1]
  rfl
theorem ga2 : Dom.Good A2 := by have := Dom.good_put ga1 0 (-1) 1; rwa [pa1] at this
theorem ga3 : Dom.Good A3 := Dom.good_make ga2 nRow
theorem pa3 : Dom.putT A3 1 (-1) 2 = (A4, true) :=
  (put_new (t := A3) ga3 (i := 2) (p := 1) (b := -1) (by decide) (by decide) ⟨by decide, .inl rfl⟩ (by decide) (by decide) (by decide) rfl rfl).trans rfl
theorem z2_is : ins Z1 0 trN [] = Z2 := by
  show (⟨(Dom.putT A3 1 (-1) 2).1, [root0, oT, oR], [], false, 3⟩ : St) = Z2
  rw [pa3]
  rfl
theorem ga4 : Dom.Good A4 := by have := Dom.good_put ga3 1 (-1) 2; rwa [pa3] at this
theorem ga5 : Dom.Good A5 := Dom.good_snoc ga4 nX (by decide)
theorem pa5 : Dom.putT A5 0 1 3 = (A6, true) :=
  (put_new (t := A5) ga5 (i := 3) (p := 0) (b := 1) (by decide) (by decide) ⟨by decide, .inr (by decide)⟩ (by decide) (by decide) (by decide) rfl rfl).trans rfl
theorem wa4 : Dom.writeT A4 0 1 [120] = (A6, true) := by
  have e : Dom.writeT A4 0 1 [120] = Dom.putT A5 0 1 3 := by
    unfold Dom.writeT
    rw [if_neg (by
      rintro (q | q)
      · exact q (by decide)
      · exact absurd q (by decide)), if_neg (by decide)]
    rfl
  rw [e, pa5]
theorem z4_is : write Z3 [120] = Z4 := by
  show (⟨(Dom.writeT A4 0 1 [120]).1, [root0, oT, oR], [], true, 3⟩ : St) = Z4
  rw [wa4]
  rfl
theorem ga6 : Dom.Good A6 := by have := Dom.good_put ga5 0 1 3; rwa [pa5] at this
theorem ga7 : Dom.Good A7 := Dom.good_make ga6 nB
theorem pa7 : Dom.putT A7 2 (-1) 4 = (A8, true) :=
  (put_new (t := A7) ga7 (i := 4) (p := 2) (b := -1) (by decide) (by decide) ⟨by decide, .inl rfl⟩ (by decide) (by decide) (by decide) rfl rfl).trans rfl
theorem z6_is : ins Z5 0 bN [] = Z6 := by
  show (⟨(Dom.putT A7 2 (-1) 4).1, [root0, oT, oR, oB], [], false, 4⟩ : St) = Z6
  rw [pa7]
  rfl
theorem ga8 : Dom.Good A8 := by have := Dom.good_put ga7 2 (-1) 4; rwa [pa7] at this
theorem ga9 : Dom.Good A9 := Dom.good_snoc ga8 nY (by decide)
theorem pa9 : Dom.putT A9 4 (-1) 5 = (A10, true) :=
  (put_new (t := A9) ga9 (i := 5) (p := 4) (b := -1) (by decide) (by decide) ⟨by decide, .inl rfl⟩ (by decide) (by decide) (by decide) rfl rfl).trans rfl
theorem wa8 : Dom.writeT A8 4 (-1) [121] = (A10, true) := by
  have e : Dom.writeT A8 4 (-1) [121] = Dom.putT A9 4 (-1) 5 := by
    unfold Dom.writeT
    rw [if_neg (by
      rintro (q | q)
      · exact q (by decide)
      · exact absurd q (by decide)), if_neg (by decide)]
    rfl
  rw [e, pa9]
theorem z7_is : write Z6 [121] = Z7 := by
  show (⟨(Dom.writeT A8 4 (-1) [121]).1, [root0, oT, oR, oB], [], false, 4⟩ : St) = Z7
  rw [wa8]
  rfl
theorem ok1 : Ok Z1 := by have := ok_new.ins (space := 0) (by omega) tblN []; rwa [z1_is] at this
theorem ok2 : Ok Z2 := by have := ok1.ins (space := 0) (by omega) trN []; rwa [z2_is] at this
theorem ok3 : Ok Z3 := ok2.foster true
theorem ok4 : Ok Z4 := by have := ok3.write [120]; rwa [z4_is] at this
theorem ok5 : Ok Z5 := ok4.foster false
theorem ok6 : Ok Z6 := by have := ok5.ins (space := 0) (by omega) bN []; rwa [z6_is] at this
theorem ok7 : Ok Z7 := by have := ok6.write [121]; rwa [z7_is] at this
theorem whole10 (e : Nat) : Dom.wholeF (e + 4) A10 0 = [nX, .mk 1 0 tblN [] [] [.mk 1 0 trN [] [] [.mk 1 0 bN [] [] [nY]]]] := by
  have h : ∀ k, Dom.kidsAt A10 k = [] → ∀ f, Dom.wholeF f A10 k = [] := fun k hk f => Dom.wholeF_none hk f
  show [Dom.withKids (Dom.bareP (Dom.nodeAt A10 3).nd) (Dom.wholeF (e + 3) A10 3), Dom.withKids (Dom.bareP (Dom.nodeAt A10 1).nd) [Dom.withKids (Dom.bareP (Dom.nodeAt A10 2).nd) [Dom.withKids (Dom.bareP (Dom.nodeAt A10 4).nd) [Dom.withKids (Dom.bareP (Dom.nodeAt A10 5).nd) (Dom.wholeF e A10 5)]]]] = _
  rw [h 3 rfl, h 5 rfl]
  rfl
end Plc
end Go.Proofs.Ytlgmjnnfndedbaa
namespace Go.Proofs.Ytlgmjnnfndedbaa
open Go.RowKit Go.Lib
set_option maxRecDepth 100000
set_option linter.unusedVariables false
theorem fit_few {t : Dom.T} (h : t.length ≤ 6) (h0 : ∀ i, i < 6 → Dom.cost (Dom.nodeAt t i).nd ≤ 500000) : Fit t := by
  have h1 : ∀ i, Dom.cost (Dom.nodeAt t i).nd ≤ 500000 := fun i => by
    by_cases hi : i < 6
    · exact h0 i hi
    · rw [Dom.nodeAt_none (by omega)]
      decide
  exact ⟨by omega, h1, 6, 500000, h, h1, by decide⟩
/-- A World of the call's own, since w. -/
def KW (w W : World) (R : Nat) (s : Plc.St) : Prop := ∃ S Rt ov mv rs St, WorldP DomK 48 w W R S s Rt ov mv rs St ∧ Turn (fun _ => False) S w W
theorem KW.below {w W : World} {R : Nat} {s : Plc.St} (h : KW w W R s) : Below w.heap.size w W := by
  obtain ⟨S, _, _, _, _, _, _, h2⟩ := h
  exact ⟨h2.os, h2.tape, h2.output, h2.size, fun k hk => h2.block k hk fun e => e⟩
theorem KW.later {w W W' : World} {R : Nat} {s : Plc.St} (h : KW w W R s) (hb : Below W.heap.size W W') : KW w W' R s := by
  obtain ⟨S, Rt, ov, mv, rs, St, h1, h2⟩ := h
  exact ⟨S, Rt, ov, mv, rs, St, h1.below dpc_dom hb, h2.trans (Turn.of_below hb)⟩
theorem KW.turned {w W W' : World} {R : Nat} {S : Nat → Prop} {s' : Plc.St} (h2 : Turn (fun _ => False) S w W) (h : PTurned DomK 48 w W W' R S s') : KW w W' R s' := by
  obtain ⟨S', ⟨Rt, ov, mv, rs, St, g1⟩, g2⟩ := h
  exact ⟨S', Rt, ov, mv, rs, St, g1, h2.trans g2⟩
theorem kw_new (w : World) : Calls Try.prog 8 #[] w fun e W => ∃ R, e = .returned (.pointer (some ⟨R, 0, none⟩)) ∧ KW w W R Plc.new := by
  refine (pnewW_any w w (Nat.le_refl _)).mono ?_
  rintro e W ⟨R, S, rfl, hb, ⟨Rt, ov, mv, rs, St, h1⟩, hS⟩
  exact ⟨R, rfl, S, Rt, ov, mv, rs, St, h1, ⟨hb.os, hb.tape, hb.output, hb.size, fun k hk _ => hb.block k hk, fun k e => .inr (hS k e)⟩⟩
theorem kw_ins (w : World) (R : Nat) (s s' : Plc.St) (nm : List UInt8) (hO : Plc.Ok s) (hF : Fit s.t) (hF2 : Fit (Dom.makeT s.t (Plc.elemN 0 nm [])).1) (hc : Dom.cost (Plc.elemN 0 nm []) ≤ 500000) (hnm : nm.length ≤ 1000) (hs : Plc.ins s 0 nm [] = s') (W : World) (h : KW w W R s) :
    Calls Try.prog 10 #[.pointer (some ⟨R, 0, none⟩), .int .u8 0, .agg #[.int .u8 0, .string (bs nm), .slice none 0 0, .bool false, .string ⟨#[]⟩]] W fun e W' => (∃ v, e = .returned v) ∧ KW w W' R s' := by
  have hb := h.below
  obtain ⟨S, Rt, ov, mv, rs, St, h1, h2⟩ := h
  refine (pins_wany w W R Rt S St s ov mv rs h1 hO hF hb 0 0 nm ⟨#[]⟩ false none 0 0 [] ⟨rfl, .inl rfl⟩ (fun _ => rfl) hF2 hc (by omega) (fun p hp => by cases hp) (by omega)).mono ?_
  rintro e W' ⟨rfl, S', ov', St', g1, g2⟩
  rw [hs] at g1
  exact ⟨⟨_, rfl⟩, S', Rt, ov', mv, rs, St', g1, h2.trans g2⟩
theorem kw_wr (w : World) (R : Nat) (s s' : Plc.St) (x : List UInt8) (hO : Plc.Ok s) (hF : Fit s.t) (hx : x.length ≤ 1000) (hs : Plc.write s x = s') (W : World) (h : KW w W R s) :
    Calls Try.prog 14 #[.pointer (some ⟨R, 0, none⟩), .string (bs x)] W fun e W' => (∃ v, e = .returned v) ∧ KW w W' R s' := by
  obtain ⟨S, Rt, ov, mv, rs, St, h1, h2⟩ := h
  refine (pwr_any w W R Rt S St s ov mv rs h1 hO hF x (by omega)).mono ?_
  rintro e W' ⟨he, g⟩
  rw [hs] at g
  exact ⟨he, KW.turned h2 g⟩
theorem kw_fo {w W : World} {R : Nat} {s : Plc.St} (h : KW w W R s) (b : Bool) : KW w (W.setCell ⟨R, 3, none⟩ (.bool b)) R { s with fo := b } := by
  obtain ⟨S, Rt, ov, mv, rs, St, h1, h2⟩ := h
  obtain ⟨g1, g2⟩ := h1.foster_ dpc_dom b
  exact ⟨S, Rt, ov, mv, rs, St, g1, h2.trans g2⟩
theorem kw_cells {w W : World} {R : Nat} {s : Plc.St} (h : KW w W R s) : ∃ Rt, W.cell? ⟨R, 0, none⟩ = some (.pointer (some ⟨Rt, 0, none⟩)) ∧ W.cell? ⟨R, 3, none⟩ = some (.bool s.fo) ∧ W.frozen? ⟨R, 3, none⟩ = false ∧ W.cell? ⟨R, 4, none⟩ = some (.int .i64 s.hi) := by
  obtain ⟨S, Rt, ov, mv, rs, St, h1, h2⟩ := h
  obtain ⟨c0, _, _, c3, c4⟩ := h1.cells
  exact ⟨Rt, c0, c3, h1.top.free 3, c4⟩
theorem kw_cur (w : World) (R : Nat) (s : Plc.St) (hO : Plc.Ok s) (hf : s.op.length ≤ 1000) (W : World) (h : KW w W R s) :
    Calls Try.prog 27 #[.pointer (some ⟨R, 0, none⟩)] W fun e W' => e = .returned (eV (Plc.cur s)) ∧ KW w W' R s := by
  have h0 := h
  obtain ⟨S, Rt, ov, mv, rs, St, h1, h2⟩ := h
  refine (pcur_any w W R Rt S St s ov mv rs h1 hO (by omega)).mono ?_
  rintro e W' ⟨he, hb⟩
  exact ⟨he, h0.later hb⟩
/-- What is told of the whole tree, as far as the example asks. -/
def KTold (W : World) (e : Ending) : Prop := ∃ b c b1 c1 a2 c2, e = .returned (.slice (some ⟨b, 0, none⟩) 2 c) ∧ W.cell? ⟨b, 4, none⟩ = some (.string ⟨#[120]⟩) ∧ W.cell? ⟨b, 11, none⟩ = some (.slice (some ⟨b1, 0, none⟩) 1 c1) ∧ W.cell? ⟨b1, 5, none⟩ = some (.slice a2 1 c2)
theorem isD_at {d : Nat} {w : World} {lo hi : Nat} {a : Option Addr} {n : Nat} {ns : List Dom.N} (h : IsD (d + 1) w lo hi a n ns) (hn : ns ≠ []) : n = ns.length ∧ ∃ b, a = some ⟨b, 0, none⟩ ∧ ∀ (i : Nat) x, ns[i]? = some x → ∃ lo' hi' aa an ac ka kn kc S, NodeAt S (IsD d w lo' hi') w b (i * 6) x aa an ac ka kn kc := by
  obtain ⟨hl, h0 | ⟨b, cs, f, g, t, e, _, _, _, _, _, _, hat⟩⟩ := h
  · exact absurd (List.length_eq_zero_iff.1 (hl.trans h0)) hn
  · refine ⟨hl.symm, b, e, fun i x hx => ?_⟩
    obtain ⟨aa, an, ac, ka, kn, kc, X, _⟩ := hat i x hx
    exact ⟨_, _, aa, an, ac, ka, kn, kc, _, X⟩
theorem kw_whole {w W : World} {R : Nat} (h : KW w W R Plc.Z7) : ∃ Rt, W.cell? ⟨R, 0, none⟩ = some (.pointer (some ⟨Rt, 0, none⟩)) ∧
    Calls Try.prog 26 #[.pointer (some ⟨Rt, 0, none⟩), .int .i64 0] W fun e W' => KTold W' e ∧ KW w W' R Plc.Z7 := by
  have h0 := h
  obtain ⟨S, Rt, ov, mv, rs, St, h1, h2⟩ := h
  refine ⟨Rt, h1.cells.1, ?_⟩
  obtain ⟨D, hD⟩ := domM_all.whole Plc.A10 Plc.ok7.good (fit_few (by decide) (by decide))
  refine (hD (D + 4) (by omega) W w.heap.size Rt St True.intro h1.tree).mono ?_
  rintro e W' ⟨⟨a, n, c, rfl, hI, _, _⟩, hb⟩
  refine ⟨?_, h0.later hb⟩
  rw [Plc.whole10] at hI
  obtain ⟨rfl, b, rfl, hat⟩ := isD_at hI (by simp)
  obtain ⟨_, _, _, _, _, _, _, _, _, X0⟩ := hat 0 _ rfl
  obtain ⟨_, _, _, _, _, ka, kn, kc, _, X1⟩ := hat 1 _ rfl
  obtain ⟨rfl, b1, rfl, hat1⟩ := isD_at X1.kids (by simp [Dom.N.kids])
  obtain ⟨_, _, _, _, _, ka2, kn2, kc2, _, X2⟩ := hat1 0 _ rfl
  obtain ⟨rfl, b2, rfl, _⟩ := isD_at X2.kids (by simp [Dom.N.kids])
  exact ⟨b, c, b1, kc, _, kc2, rfl, X0.c4, X1.c5, X2.c5⟩
theorem fitZ : Fit Plc.new.t ∧ Fit Plc.A2 ∧ Fit Plc.A4 ∧ Fit Plc.A6 ∧ Fit Plc.A8 ∧ Fit Plc.A1 ∧ Fit Plc.A3 ∧ Fit Plc.A7 := ⟨fit_few (by decide) (by decide), fit_few (by decide) (by decide), fit_few (by decide) (by decide), fit_few (by decide) (by decide), fit_few (by decide) (by decide), fit_few (by decide) (by decide), fit_few (by decide) (by decide), fit_few (by decide) (by decide)⟩
theorem open_field2 (i sp : Int) (nm : ByteArray) (pt : Int) (W : World) : Sem.run Try.prog (Instr.field 36 (.agg #[.int .i64 i, .int .u8 sp, .string nm, .int .u8 pt]) 2) W = .ok (.string nm) W := by kernel_rfl
theorem open_field0 (i sp : Int) (nm : ByteArray) (pt : Int) (W : World) : Sem.run Try.prog (Instr.field 36 (.agg #[.int .i64 i, .int .u8 sp, .string nm, .int .u8 pt]) 0) W = .ok (.int .i64 i) W := by kernel_rfl
set_option maxHeartbeats 16000000 in
theorem pknown13_any (w : World) : Calls Try.prog 7 #[] w fun e w' => e = .returned (.bool true) ∧ Below w.heap.size w w' := by
  obtain ⟨f0, f2, f4, f6, f8, f1, f3, f7⟩ := fitZ
  have HI1 := hid fun (R : Nat) (W : World) (h : KW w W R Plc.new) => show Calls Try.prog 10 #[.pointer (some ⟨R, 0, none⟩), .int .u8 0, .agg #[.int .u8 0, .string ⟨#[116, 97, 98, 108, 101]⟩, .slice none 0 0, .bool false, .string ⟨#[]⟩]] W (fun e W' => (∃ v, e = .returned v) ∧ KW w W' R Plc.Z1) from kw_ins w R Plc.new Plc.Z1 Plc.tblN Plc.ok_new f0 f1 (by decide) (by decide) Plc.z1_is W h
  have HI2 := hid fun (R : Nat) (W : World) (h : KW w W R Plc.Z1) => show Calls Try.prog 10 #[.pointer (some ⟨R, 0, none⟩), .int .u8 0, .agg #[.int .u8 0, .string ⟨#[116, 114]⟩, .slice none 0 0, .bool false, .string ⟨#[]⟩]] W (fun e W' => (∃ v, e = .returned v) ∧ KW w W' R Plc.Z2) from kw_ins w R Plc.Z1 Plc.Z2 Plc.trN Plc.ok1 f2 f3 (by decide) (by decide) Plc.z2_is W h
  have HW1 := hid fun (R : Nat) (W : World) (h : KW w W R Plc.Z3) => show Calls Try.prog 14 #[.pointer (some ⟨R, 0, none⟩), .string ⟨#[120]⟩] W (fun e W' => (∃ v, e = .returned v) ∧ KW w W' R Plc.Z4) from kw_wr w R Plc.Z3 Plc.Z4 [120] Plc.ok3 f4 (by decide) Plc.z4_is W h
  have HI3 := hid fun (R : Nat) (W : World) (h : KW w W R Plc.Z5) => show Calls Try.prog 10 #[.pointer (some ⟨R, 0, none⟩), .int .u8 0, .agg #[.int .u8 0, .string ⟨#[98]⟩, .slice none 0 0, .bool false, .string ⟨#[]⟩]] W (fun e W' => (∃ v, e = .returned v) ∧ KW w W' R Plc.Z6) from kw_ins w R Plc.Z5 Plc.Z6 Plc.bN Plc.ok5 f6 f7 (by decide) (by decide) Plc.z6_is W h
  have HW2 := hid fun (R : Nat) (W : World) (h : KW w W R Plc.Z6) => show Calls Try.prog 14 #[.pointer (some ⟨R, 0, none⟩), .string ⟨#[121]⟩] W (fun e W' => (∃ v, e = .returned v) ∧ KW w W' R Plc.Z7) from kw_wr w R Plc.Z6 Plc.Z7 [121] Plc.ok6 f8 (by decide) Plc.z7_is W h
  have HCU := hid fun (R : Nat) (W : World) (h : KW w W R Plc.Z7) => show Calls Try.prog 27 #[.pointer (some ⟨R, 0, none⟩)] W (fun e W' => e = .returned (.agg #[.int .i64 4, .int .u8 0, .string ⟨#[98]⟩, .int .u8 0]) ∧ KW w W' R Plc.Z7) from kw_cur w R Plc.Z7 Plc.ok7 (by decide) W h
  clear f0 f1 f2 f3 f4 f6 f7 f8
  go_enter Try.func7, Try.ntmps7
  go_wp2_with fail
  refine (kw_new w).mono ?_
  rintro e w1 ⟨R, rfl, h1⟩
  obtain ⟨Rt1, c0, _, _, _⟩ := kw_cells h1
  have H1 := hid h1
  clear h1
  go_wp2_with fail
  refine (HI1.out R _ H1.out).mono ?_
  rintro e w2 ⟨⟨v2, rfl⟩, h2⟩
  have H2 := hid h2
  clear h2 c0 H1
  go_wp2_with fail
  refine (HI2.out R _ H2.out).mono ?_
  rintro e w3 ⟨⟨v3, rfl⟩, h3⟩
  obtain ⟨_, _, c3, f3, _⟩ := kw_cells h3
  have H3 := hid (show KW w (w3.setCell ⟨R, 3, none⟩ (.bool true)) R Plc.Z3 from kw_fo h3 true)
  clear h3 H2
  go_wp2_with fail
  refine (HW1.out R _ H3.out).mono ?_
  rintro e w4 ⟨⟨v4, rfl⟩, h4⟩
  clear c3 f3
  obtain ⟨_, _, c3, f3, _⟩ := kw_cells h4
  have H4 := hid (show KW w (w4.setCell ⟨R, 3, none⟩ (.bool false)) R Plc.Z5 from kw_fo h4 false)
  clear h4 H3
  go_wp2_with fail
  refine (HI3.out R _ H4.out).mono ?_
  rintro e w5 ⟨⟨v5, rfl⟩, h5⟩
  have H5 := hid h5
  clear h5 H4 c3 f3
  go_wp2_with fail
  refine (HW2.out R _ H5.out).mono ?_
  rintro e w6 ⟨⟨v6, rfl⟩, h6⟩
  obtain ⟨Rt6, c0, hW⟩ := kw_whole h6
  have HWH := hid hW
  clear h6 H5 hW
  go_wp2_with fail
  refine HWH.out.mono ?_
  rintro e w7 ⟨⟨b, c, b1, c1, a2, c2, rfl, x4, x11, x5⟩, h7⟩
  obtain ⟨_, _, _, _, c4⟩ := kw_cells h7
  rw [show ((Plc.Z7.hi : Nat) : Int) = 4 from rfl] at c4
  have H7 := hid h7
  clear h7 HWH c0
  go_wp2_with fail
  refine (HCU.out R _ H7.out).mono ?_
  rintro e w8 ⟨rfl, h8⟩
  have H8 := hid h8.below
  have hfld := fun W => open_field2 4 0 ⟨#[98]⟩ 0 W
  clear h8 H7 c4 x4 x11 x5
  go_wp2_with fail
  go_ret
  exact ⟨rfl, H8.out⟩
end Go.Proofs.Ytlgmjnnfndedbaa
