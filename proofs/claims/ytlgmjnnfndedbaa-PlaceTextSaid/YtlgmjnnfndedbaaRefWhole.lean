/- Walks over the program's package open: Until, Implied, Clear, In, Item. Numbers that came in, as the walks take them. A row of elements that the call itself has made; the statements' row. Written by tools/gen_openkn.py. A World of layer 13 in memory: its block, its tree, the row of what is open, the row of what formats, all apart; S: the blocks that are the World's. DP: what a tree is (the reference's, or the program's); T: the World's type. Walks over the reference of layer 13: Current, Close. Walks over the statements of layer 11: the chapter's example. Written by tools/gen_openkn.py. Walks over the reference of layer 13: Where. Written by tools/gen_rwhere.py. A new node at the end of a tree's row; a call of a Go function, and such an append, as one step of a region that draws its order. Walks over the reference of layer 13: Drop, New. Walks over the reference of layer 10: Whole. -/
import Derived.Test.YtlgmjnnfndedbaaOpenCl
import Derived.Test.YtlgmjnnfndedbaaOpenLt
import Derived.Test.YtlgmjnnfndedbaaAppT
import Derived.Test.YtlgmjnnfndedbaaMarkM
import Derived.Test.YtlgmjnnfndedbaaPlaceHo
import Derived.Test.YtlgmjnnfndedbaaDomC
import Derived.Test.YtlgmjnnfndedbaaOpenIn
import Derived.Test.YtlgmjnnfndedbaaTreeO
import Derived.Test.YtlgmjnnfndedbaaNodeLend
import Derived.ProofKit
import Derived.OpenShut
import Derived.ChangeOld
import Derived.SliceStrings
import Derived.Deep.LoopGhost
import Derived.IntWalk
import Derived.BigCall
import Derived.Handy
import Derived.Maps.AppendAt
import Derived.Deep.RegionLaw
import Derived.RangeFuncNested
namespace Go.Proofs.Ytlgmjnnfndedbaa
open Go.RowKit Go.Lib
set_option maxRecDepth 100000
set_option linter.unusedVariables false
/-- How it lies in memory that elements came in. -/
structure ElemsIn (a : Option Addr) (len cap : Nat) (l : List Opn.E) (w : World) : Prop where
  isE : IsE w a len l
  few : len ≤ 4294967296
  fits : len ≤ cap
  fits2 : cap ≤ 9223372036854775807
  sp : ∀ x ∈ l, x.space < 256
theorem ElemsIn.below {a : Option Addr} {len cap : Nat} {l : List Opn.E} {w w' : World} (h : ElemsIn a len cap l w) (hb : Below w.heap.size w w') : ElemsIn a len cap l w' := ⟨h.isE.below hb, h.few, h.fits, h.fits2, h.sp⟩
set_option maxHeartbeats 4000000 in
theorem puntil_any (a : Option Addr) (len cap : Nat) (l : List Opn.E) (b : Option Addr) (bn bc : Nat) (ns : List (List UInt8)) (w : World) (h : ElemsIn a len cap l w) (g : NamesIn b bn bc ns w) :
    Calls Try.prog 57 #[.slice a len cap, .slice b bn bc] w fun e w' => e = .returned (.int .i64 (Opn.untilI l ns len)) ∧ Below w.heap.size w w' := by
  have al := (Below.refl w.heap.size w).alloc (Nat.le_refl _) (.cells #[.slice b bn bc] 101)
  have c0 := (BlkW.new w #[.slice b bn bc] 101).cell 0
  have HL := hid (last_until a len cap l (fun x => Opn.oneB x ns) ⟨w.heap.size, 0, none⟩ _ (h.below al).isE h.few fun x W hx hb => cl_until x _ b bn bc ns W (cell_up c0 hb) ((g.below al).below hb))
  rw [← Opn.until_last] at HL
  generalize Opn.untilI l ns len = R at *
  have HA := hid al
  clear al c0 h g
  go_enter Try.func57, Try.ntmps57
  go_wp2_with fail
  refine HL.out.mono ?_
  rintro e w2 ⟨rfl, b2⟩
  have B2 := hid (HA.out.trans (b2.mono HA.out.size))
  clear HL b2
  go_wp2
  go_ret
  exact ⟨rfl, B2.out⟩
end Go.Proofs.Ytlgmjnnfndedbaa
namespace Go.Proofs.Ytlgmjnnfndedbaa
open Go.ChangeShapes Go.WideShapes Go.ChangeAt Go.RowKit Go.Lib
set_option maxRecDepth 100000
set_option linter.unusedVariables false
section
variable {H : Type} {enc : TypeId × Value → H}
theorem i64_arg {W : World} {n : Nat} {v : Value} {y : DataW H × List MemPlace} (h : DataW.trod enc Try.prog W 0 (fun _ => true) true n 3 [v] = some y) : ∃ k : Int, v = .int .i64 k ∧ -9223372036854775808 ≤ k ∧ k ≤ 9223372036854775807 := by
  obtain ⟨k, e, _, hw⟩ := DataW.trod_int Try.underlying3 h
  simp at e
  refine ⟨k, e, ?_⟩
  simp [Lit.wf, IntKind.min, IntKind.max, IntKind.signed, IntKind.bits] at hw
  omega
theorem int_arg {W : World} {n : Nat} {v : Value} {y : DataW H × List MemPlace} (h : DataW.trod enc Try.prog W 0 (fun _ => true) true n 5 [v] = some y) : ∃ k : Nat, v = .int .u8 k ∧ k < 256 := by
  obtain ⟨k, e, _, hw⟩ := DataW.trod_int Try.underlying5 h
  simp at e
  have : 0 ≤ k ∧ k < 256 := by
    simp [Lit.wf, IntKind.min, IntKind.max, IntKind.signed, IntKind.bits] at hw
    omega
  exact ⟨k.toNat, by rw [e, Int.toNat_of_nonneg this.1], by omega⟩
end
end Go.Proofs.Ytlgmjnnfndedbaa
namespace Go.Proofs.Ytlgmjnnfndedbaa
open Go.RowKit Go.Lib
set_option maxRecDepth 100000
set_option linter.unusedVariables false
def eL (l : List Opn.E) : List Value := l.flatMap fun x => [.int .i64 x.id, .int .u8 x.space, .string (bs x.name), .int .u8 x.point]
theorem eL_cons (x : Opn.E) (t : List Opn.E) : eL (x :: t) = [.int .i64 x.id, .int .u8 x.space, .string (bs x.name), .int .u8 x.point] ++ eL t := rfl
theorem eL_append (a b : List Opn.E) : eL (a ++ b) = eL a ++ eL b := by simp [eL]
theorem eL_len : ∀ (l : List Opn.E), (eL l).length = l.length * 4
  | [] => rfl
  | x :: t => by
    rw [eL_cons, List.length_append, eL_len t, List.length_cons]
    show 4 + t.length * 4 = (t.length + 1) * 4
    omega
theorem eL_get : ∀ (l : List Opn.E) (i : Nat) (x : Opn.E), l[i]? = some x → (eL l)[i * 4]? = some (.int .i64 x.id) ∧ (eL l)[i * 4 + 1]? = some (.int .u8 x.space) ∧ (eL l)[i * 4 + 2]? = some (.string (bs x.name)) ∧ (eL l)[i * 4 + 3]? = some (.int .u8 x.point)
  | [], i, x, h => by cases h
  | y :: t, 0, x, h => by
    simp at h
    subst h
    exact ⟨rfl, rfl, rfl, rfl⟩
  | y :: t, i + 1, x, h => by
    obtain ⟨h0, h1, h2, h3⟩ := eL_get t i x (by simpa using h)
    have e : eL (y :: t) = .int .i64 y.id :: .int .u8 y.space :: .string (bs y.name) :: .int .u8 y.point :: eL t := rfl
    rw [e, show (i + 1) * 4 = i * 4 + 4 by omega]
    exact ⟨by simpa using h0, by rw [show i * 4 + 4 + 1 = i * 4 + 1 + 4 by omega]; simpa using h1, by rw [show i * 4 + 4 + 2 = i * 4 + 2 + 4 by omega]; simpa using h2, by rw [show i * 4 + 4 + 3 = i * 4 + 3 + 4 by omega]; simpa using h3⟩
theorem info_open : (Try.prog.info? 36).map (fun i => (i.zero, i.size, i.bytes)) = some (some (.agg #[.int .i64 0, .int .u8 0, .string ⟨#[]⟩, .int .u8 0]), 4, 40) := by kernel_rfl
theorem own_isE {w : World} {base : Nat} {v : Value} {l : List Opn.E} (h : w.ownsRow base 36 4 v l.length (eL l)) :
    ∃ a cap, v = .slice a l.length cap ∧ IsE w a l.length l ∧ l.length ≤ cap ∧ cap ≤ maxLen := by
  obtain ⟨_, ⟨rfl, h0⟩ | ⟨g, cap, cur, rfl, hb, hg, hn, hc, hcs, ht⟩⟩ := h
  · exact ⟨none, 0, by rw [h0], ⟨rfl, .inl h0⟩, by omega, by unfold maxLen; omega⟩
  · refine ⟨_, cap, rfl, ⟨rfl, .inr ⟨g, 0, rfl, fun i x hi => ?_⟩⟩, hn, hc⟩
    have hlt : i < l.length := (List.getElem?_eq_some_iff.1 hi).1
    obtain ⟨h0, h1, h2, h3⟩ := eL_get l i x hi
    rw [← ht, List.getElem?_take_of_lt (by omega)] at h0 h1 h2 h3
    simp only [World.cell?, Nat.zero_add, hg]
    exact ⟨by simpa using h0, by simpa using h1, by simpa using h2, by simpa using h3⟩
end Go.Proofs.Ytlgmjnnfndedbaa
namespace Go.Proofs.Ytlgmjnnfndedbaa
open Go.RowKit Go.Lib
set_option maxRecDepth 100000
set_option linter.unusedVariables false

/-- A block that is no one's. -/
theorem Turn.blkW {S S' : Nat → Prop} {w w' : World} {g : Nat} {cs : Array Value} {T : TypeId} (hT : Turn S S' w w') (h : BlkW w g cs T) (hn : ¬ S g) : BlkW w' g cs T := (hT.block g h.lt hn).trans h
abbrev TreeP13 := World → Nat → Nat → (Nat → Prop) → Dom.T → Prop
/-- What is asked of a tree. -/
structure DPC (DP : TreeP13) : Prop where
  keep : ∀ {w w' : World} {base R : Nat} {S Q Q' : Nat → Prop} {t : Dom.T}, DP w base R S t → Turn Q Q' w w' → (∀ k, S k → ¬ Q k) → DP w' base R S t
  inb : ∀ {w : World} {base R : Nat} {S : Nat → Prop} {t : Dom.T}, DP w base R S t → ∀ k, S k → base ≤ k ∧ k < w.heap.size
theorem DPC.below {DP : TreeP13} (H : DPC DP) {w w' : World} {base R : Nat} {S : Nat → Prop} {t : Dom.T} (h : DP w base R S t) (hb : Below w.heap.size w w') : DP w' base R S t :=
  H.keep (Q := fun _ => False) (Q' := fun _ => False) h ⟨hb.os, hb.tape, hb.output, hb.size, fun k hk _ => hb.block k hk, fun _ e => .inl e⟩ (fun _ _ e => e)
section
variable {DP : TreeP13} {T : TypeId} {w0 w w' : World} {R Rt : Nat} {S St : Nat → Prop} {s : Plc.St} {ov mv : Value} {rs : List MR}
end
end Go.Proofs.Ytlgmjnnfndedbaa
namespace Go.Proofs.Ytlgmjnnfndedbaa
open Go.RowKit Go.Lib
set_option maxRecDepth 100000
set_option linter.unusedVariables false

theorem isE_at0 {w : World} {b n : Nat} {l : List Opn.E} (h : IsE w (some ⟨b, 0, none⟩) n l) {k : Nat} {x : Opn.E} (hx : l[k]? = some x) :
    w.cell? ⟨b, k * 4, none⟩ = some (.int .i64 x.id) ∧ w.cell? ⟨b, k * 4 + 1, none⟩ = some (.int .u8 x.space) ∧ w.cell? ⟨b, k * 4 + 2, none⟩ = some (.string (bs x.name)) ∧ w.cell? ⟨b, k * 4 + 3, none⟩ = some (.int .u8 x.point) := by
  obtain ⟨hl, h0 | ⟨b', o', e, hat⟩⟩ := h
  · have := (List.getElem?_eq_some_iff.1 hx).1
    omega
  · cases e
    have := hat k x hx
    simpa only [Nat.zero_add] using this
theorem open_store {w W : World} {H B : Nat} {a0 a1 a2 a3 : Value} {T : TypeId} (h : BlkW W H #[a0, a1, a2, a3] T) (hb : Below B w W) (hB : B ≤ H) (b0 b1 b2 b3 : Value) :
    ∃ W', ((((W.setCell ⟨H, 0, none⟩ b0).setCell ⟨H, 1, none⟩ b1).setCell ⟨H, 2, none⟩ b2).setCell ⟨H, 3, none⟩ b3).drew = W' ∧
      W'.cell? ⟨H, 0, none⟩ = some b0 ∧ W'.cell? ⟨H, 1, none⟩ = some b1 ∧ W'.cell? ⟨H, 2, none⟩ = some b2 ∧ W'.cell? ⟨H, 3, none⟩ = some b3 ∧ Below B w W' := by
  have h5 := (((h.set_ 0 b0).set_ 1 b1).set_ 2 b2).set_ 3 b3
  have hb5 := ((((hb.setCell (p := ⟨H, 0, none⟩) hB b0).setCell (p := ⟨H, 1, none⟩) hB b1).setCell (p := ⟨H, 2, none⟩) hB b2).setCell (p := ⟨H, 3, none⟩) hB b3)
  generalize (((W.setCell ⟨H, 0, none⟩ b0).setCell ⟨H, 1, none⟩ b1).setCell ⟨H, 2, none⟩ b2).setCell ⟨H, 3, none⟩ b3 = W5 at *
  have z0 : W5.cell? ⟨H, 0, none⟩ = some b0 := (h5.cell 0).trans rfl
  have z1 : W5.cell? ⟨H, 1, none⟩ = some b1 := (h5.cell 1).trans rfl
  have z2 : W5.cell? ⟨H, 2, none⟩ = some b2 := (h5.cell 2).trans rfl
  have z3 : W5.cell? ⟨H, 3, none⟩ = some b3 := (h5.cell 3).trans rfl
  have hd : Below W5.heap.size W5 W5.drew := (Below.refl _ _).drew
  exact ⟨_, rfl, cell_up z0 hd, cell_up z1 hd, cell_up z2 hd, cell_up z3 hd, hb5.drew⟩
/-- An element's value. -/
def eV (x : Opn.E) : Value := .agg #[.int .i64 x.id, .int .u8 x.space, .string (bs x.name), .int .u8 x.point]
end Go.Proofs.Ytlgmjnnfndedbaa
namespace Go.Proofs.Ytlgmjnnfndedbaa
open Go.RowKit Go.Lib
set_option maxRecDepth 100000
set_option linter.unusedVariables false
/-- A literal of texts, as names that came in. -/
theorem names_lit {ns : List (List UInt8)} {n : Nat} {C : Array Value} (W : World) (hn : ns.length = n) (hC : C.toList = strsL ns) (hs : n ≤ 1000) : NamesIn (some ⟨W.heap.size, 0, none⟩) n n ns (W.alloc (.cells C 9)) :=
  ⟨isS_of_block hn (heap_alloc_new W _) hC, by omega, Nat.le_refl _, by omega⟩
end Go.Proofs.Ytlgmjnnfndedbaa
namespace Go.Proofs.Ytlgmjnnfndedbaa
open Go.RowKit Go.Lib
set_option maxRecDepth 100000
set_option linter.unusedVariables false
/-- Two numbers. -/
def pairV (p : Int × Int) : Value := .tuple #[.int .i64 p.1, .int .i64 p.2]
theorem untilI_lt (l : List Opn.E) (ns : List (List UInt8)) : ∀ n : Nat, Opn.untilI l ns n < n
  | 0 => by show (-1 : Int) < _; omega
  | n + 1 => by
    unfold Opn.untilI
    split
    · omega
    · split
      · omega
      · have := untilI_lt l ns n
        omega
end Go.Proofs.Ytlgmjnnfndedbaa
namespace Go.Proofs.Ytlgmjnnfndedbaa
open Go.RowKit Go.Lib
set_option maxRecDepth 100000
set_option linter.unusedVariables false

/-- A call of a Go function with one argument. -/
theorem step_call {P : Program} {w : World} {ops : Array Oper} {o : Oper} {a : Act} {K : Act → World → Prop} {Q : Exit → Act → World → Prop} {E : Prop} {f : Nat} {x : Operand} {ts : Array TypeId} (hgd : o.guard = none)
    (ho : o.op = .call { callee := .value (.func f), args := #[x], argTypes := ts }) (eg : ∀ args w, (callFunc f args).run P w = .ok (.enter f args) w)
    (h : Calls P f #[a.eval x] w fun e w' => ∃ v, e = .returned v ∧ K (a.put o.dst v) w') :
    if Region.wanted o (yielded ops a.tmps) = true then Oper.wp P o a w K Q else E := by
  have hw : Region.wanted o (yielded ops a.tmps) = true := by simp [Region.wanted, hgd]
  rw [if_pos hw]
  have hr : (execOp a.eval o).run P w = .ok (.enter f #[a.eval x]) w := by simp [execOp, ho, resolve, invoke, go_sem, eg]
  unfold Oper.wp
  rw [hr, Oper.upon_enter]
  refine Calls.mono h ?_
  rintro e w' ⟨v, rfl, k⟩
  exact k
end Go.Proofs.Ytlgmjnnfndedbaa
namespace Go.Proofs.Ytlgmjnnfndedbaa
open Go.RowKit Go.Lib
set_option maxRecDepth 100000
set_option linter.unusedVariables false
theorem World.grownBy.of_below {w w' : World} (hb : Below w.heap.size w w') (row : Option Nat) : w.grownBy w' row := ⟨hb.os, hb.tape, hb.output, hb.size, fun i hi _ => hb.block i hi⟩
end Go.Proofs.Ytlgmjnnfndedbaa
namespace Go.Proofs.Ytlgmjnnfndedbaa
open Go.RowKit Go.Lib
set_option maxRecDepth 100000
set_option linter.unusedVariables false

/-- A node without kids in a block of its own, its attributes in new memory. -/
structure LocN (wr : World) (LB : Nat) (y : Dom.N) (a' : Option Addr) (c' : Nat) (W : World) : Prop where
  blk : BlkW W LB #[.int .u8 y.kind, .int .u8 y.space, .string (bs y.name), .slice a' y.atts.length c', .string (bs y.text), .slice none 0 0] 61
  lo : wr.heap.size ≤ LB
  atts : IsA W a' y.atts.length y.atts
  inS : InS (fun k => wr.heap.size ≤ k ∧ k < W.heap.size) a' y.atts.length
  own : OwnB W 91 a' y.atts.length
  anil : a' = none → c' = 0
  bel : Below wr.heap.size wr W
end Go.Proofs.Ytlgmjnnfndedbaa
