/- Walks over the program's package dom: the map of signs. Walks: a strings.Builder that lies at the head of package dom's printer. -/
import Derived.Test.YthbklcpjbeelhaaRefDomS
import Derived.Test.YthbklcpjbeelhaaOwnM
import Derived.Test.YthbklcpjbeelhaaTreeO
import Derived.Test.YthbklcpjbeelhaaShelf
import Derived.Maps.OwnSet
import Derived.Carry
import Derived.Deep.RegionLaw
namespace Go.Proofs.Ythbklcpjbeelhaa
open Go.RowKit Go.Lib
open Go.Maps (Keyed has)
set_option maxRecDepth 100000
set_option linter.unusedVariables false

/-- How a map's element reads. -/
def sgL (l : List Value) : Option (DataW Unit × List MemPlace) :=
  match l with
  | [.string s] => some (.lit (.string s.data.toList), [])
  | _ => none
def sgR (v : Value) : Option (DataW Unit × List MemPlace) :=
  match v with
  | .agg cs => sgL cs.toList
  | _ => none
def sgD (l : List UInt8) : DataW Unit := .lit (.string l)
theorem sgL_inv {v : List Value} {ps : List MemPlace} {l : List UInt8} (h : sgL v = some (sgD l, ps)) : v = [.string (bs l)] := by
  unfold sgL at h
  split at h
  · rename_i s
    simp [sgD] at h
    obtain ⟨h, _⟩ := h
    rw [← h]
    show [Value.string s] = [Value.string ⟨s.data.toList.toArray⟩]
    rw [Array.toArray_toList]
  · cases h
theorem sgR_inv {v : Value} {ps : List MemPlace} {l : List UInt8} (h : sgR v = some (sgD l, ps)) : v = .agg #[.string (bs l)] := by
  unfold sgR at h
  split at h
  · rename_i cs
    have := sgL_inv h
    obtain ⟨l2⟩ := cs
    simp only at this
    rw [this]
  · cases h
/-- The signs. -/
def mapG1 : DataW Unit := (DataW.map []).put (.int .u8 1) (sgD [115, 118, 103, 32])
def mapG : DataW Unit := mapG1.put (.int .u8 2) (sgD [109, 97, 116, 104, 32])
theorem isMap_G1 : Maps.IsMap mapG1 := Maps.isMap_empty.put _ _
theorem at_mapG (s : Nat) : mapG.atKey (.int .u8 s) (sgD []) = sgD (Dom.spaceP s) := by
  unfold Dom.spaceP
  by_cases h2 : s = 2
  · subst h2
    exact Maps.atKey_put_same (k := .int .u8 2) isMap_G1 (by simp [WideAt.IsKeyLit]) _ _
  · unfold mapG
    rw [Maps.atKey_put_other (fun e => h2 (by injection e with _ e; omega))]
    by_cases h1 : s = 1
    · subst h1
      exact Maps.atKey_put_same (k := .int .u8 1) Maps.isMap_empty (by simp [WideAt.IsKeyLit]) _ _
    · unfold mapG1
      rw [Maps.atKey_put_other (fun e => h1 (by injection e with _ e; omega)), if_neg h1, if_neg h2]
      rfl
/-- Block b is that map. -/
def IsG (w : World) (b : Nat) : Prop := w.ownsMap Try.prog 5 sgR b 2 mapG
theorem IsG.keep {w w' : World} {b : Nat} (h : IsG w b) (hk : w'.heap[b]? = w.heap[b]?) (hs : w.heap.size ≤ w'.heap.size) : IsG w' b := by
  obtain ⟨es, clock, hb, F, h1, h2⟩ := h
  exact ⟨es, clock, hk.trans hb, F, h1, h2⟩
theorem keyed_u8 : Keyed Try.prog 5 := Maps.int_keyed Try.underlying5
theorem zeroG (w : World) : (zeroValue 90).run Try.prog w = .ok (.agg #[.string ⟨#[]⟩]) w := by kernel_rfl
/-- A sign is stored. -/
theorem wpList_gin {w : World} {ops : Array Oper} {rest : List Oper} {o : Oper} {a : Act} {Q : Exit → Act → World → Prop} (hg : o.guard = none) (m v : Operand) (x : Nat)
    (hop : o.op = .insert 75 m (.const (.int .u8 x)) v) (b n : Nat) (D : DataW Unit) (h : w.ownsMap Try.prog 5 sgR b n D) (hm : a.eval m = .map (some b)) (l : List UInt8) (hv : a.eval v = .agg #[.string ⟨l.toArray⟩])
    (hx : x < 256) (hn : n < 1000) (hd : o.dst = none)
    (k : ∀ w', w'.ownsMap Try.prog 5 sgR b (n + 1) (D.put (.int .u8 x) (sgD l)) → w.grownBy w' (some b) → wpList Try.prog ops Q rest a w') : wpList Try.prog ops Q (o :: rest) a w := by
  refine wpList_plain hg fun K hK => ?_
  have hv2 : sgR (.agg #[.string ⟨l.toArray⟩]) = some (sgD l, []) := rfl
  have hwf : (Lit.int .u8 (x : Int)).wf = true := by
    have e1 : IntKind.u8.min = 0 := rfl
    have e2 : IntKind.u8.max = 255 := rfl
    simp [Lit.wf]
    omega
  obtain ⟨w', hrun, h1, h2⟩ := h.update keyed_u8 Try.underlying75 (by unfold maxLen; omega) (key := .int .u8 x) (kl := .int .u8 x) (Maps.keyOf_int_mk Try.underlying5 hwf) hv2
  unfold Oper.wp
  have hc : a.eval (.const (.int .u8 x)) = .int .u8 x := rfl
  simp only [execOp, hop, hm, hv, hc]
  rw [show ((do (Instr.mapUpdate 75 (.map (some b)) (.int .u8 x) (.agg #[.string ⟨l.toArray⟩])); pure Next.skip : Sem Next).run Try.prog w) = .ok .skip w' by simp [hrun, Result.andThen]]
  refine hK _ _ ?_
  rw [hd]
  exact k w' h1 h2
/-- What a look-up tells. -/
theorem run_lookG {w : World} {b : Nat} (h : IsG w b) (s : Nat) (hs : s < 256) :
    (Instr.lookup 75 (.map (some b)) (.int .u8 s) false).run Try.prog w = .ok (.agg #[.string (bs (Dom.spaceP s))]) w := by
  have hwf : (Lit.int .u8 (s : Int)).wf = true := by
    have e1 : IntKind.u8.min = 0 := rfl
    have e2 : IntKind.u8.max = 255 := rfl
    simp [Lit.wf]
    omega
  obtain ⟨v, ps, hrun, hv⟩ := World.ownsMap.lookup h keyed_u8 Try.underlying75 (zeroG w) (zd := sgD []) (zp := []) rfl (key := .int .u8 s) (kl := .int .u8 s) (Maps.keyOf_int_mk Try.underlying5 hwf)
  rw [at_mapG] at hv
  rw [hrun, sgR_inv hv]
set_option maxHeartbeats 1000000 in
theorem spaces_any (w : World) : Calls Try.prog 58 #[] w fun e w' => e = .returned (.map (some w.heap.size)) ∧ IsG w' w.heap.size ∧ Below w.heap.size w w' := by
  have hmm := @run_makeMap Try.prog
  have h0 : (w.alloc (.map #[] 0)).ownsMap Try.prog 5 sgR w.heap.size 0 (.map []) := World.ownsMap_made _ _ _ _
  have b0 : Below w.heap.size w (w.alloc (.map #[] 0)) := (Below.refl _ _).alloc (Nat.le_refl _) _
  have H0 := hid h0
  have B0 := hid b0
  clear h0 b0
  go_enter Try.func58, Try.ntmps58
  go_wp2_with (first
    | (refine wpList_gin rfl _ _ 1 rfl w.heap.size 0 _ H0.out rfl [115, 118, 103, 32] rfl (by decide) (by decide) rfl ?_; intro w1 h1 g1; have H1 := hid h1; have B1 := hid (B0.out.grown g1 B0.out.size (fun k e => by cases e; exact Nat.le_refl _)); clear h1 g1)
    | (refine wpList_gin rfl _ _ 2 rfl w.heap.size 1 _ H1.out rfl [109, 97, 116, 104, 32] rfl (by decide) (by decide) rfl ?_; intro w2 h2 g2; have H2 := hid h2; have B2 := hid (B1.out.grown g2 B1.out.size (fun k e => by cases e; exact Nat.le_refl _)); clear h2 g2))
  go_ret
  exact ⟨rfl, H2.out, B2.out⟩
theorem run_fieldG (s : ByteArray) (w : World) : (Instr.field 90 (.agg #[.string s]) 0).run Try.prog w = .ok (.string s) w := by kernel_rfl
end Go.Proofs.Ythbklcpjbeelhaa
namespace Go.Proofs.Ythbklcpjbeelhaa
open Go.RowKit Go.Lib
set_option maxRecDepth 100000
set_option linter.unusedVariables false

/-- The printer's block b: its builder holds l. -/
structure BuildP (w : World) (B b : Nat) (m : Value) (l : List UInt8) (p v : Value) : Prop where
  lo : B ≤ b
  blk : BlkW w b #[p, v, m] 81
  ptr : p = .pointer none ∨ p = .pointer (some ⟨b, 0, none⟩)
  own : w.ownsRow B 5 1 v l.length (byteCells l)
  nil : l = [] → v = .slice none 0 0
/-- What is no row of bytes and not that block stands as it stood. -/
structure KeptU (b : Nat) (w w' : World) : Prop where
  size : w.heap.size ≤ w'.heap.size
  same : ∀ (k : Nat) (o : Obj), w.heap[k]? = some o → k ≠ b → (∀ cs fr, o ≠ .cells cs 5 fr) → w'.heap[k]? = some o
theorem KeptU.refl (b : Nat) (w : World) : KeptU b w w := ⟨Nat.le_refl _, fun _ _ h _ _ => h⟩
theorem KeptU.trans {b : Nat} {w w1 w2 : World} (h : KeptU b w w1) (k : KeptU b w1 w2) : KeptU b w w2 := ⟨Nat.le_trans h.size k.size, fun i o h1 h2 h3 => k.same i o (h.same i o h1 h2 h3) h2 h3⟩
theorem KeptU.set {b : Nat} (w : World) (i : Nat) (u : Value) : KeptU b w (w.setCell ⟨b, i, none⟩ u) := ⟨by simp, fun k o h1 h2 _ => (Below.heap_setCell _ _ _ _ h2).trans h1⟩
theorem KeptU.below {b : Nat} {w w' : World} (h : Below w.heap.size w w') : KeptU b w w' := ⟨h.size, fun k o h1 _ _ => (h.block k (Array.getElem?_eq_some_iff.1 h1).1).trans h1⟩
theorem KeptU.grown {b : Nat} {w w' : World} {row : Option Nat} (hg : w.grownBy w' row) (hr : ∀ g, row = some g → ∃ cs fr, w.heap[g]? = some (.cells cs 5 fr)) : KeptU b w w' :=
  ⟨hg.size, fun k o h1 _ h3 => (hg.block k (Array.getElem?_eq_some_iff.1 h1).1 (fun e => by
    obtain ⟨cs, fr, hc⟩ := hr k e.symm
    rw [h1] at hc
    exact h3 cs fr (Option.some.inj hc))).trans h1⟩
theorem KeptU.blk {b c : Nat} {w w' : World} {cs : Array Value} {T : TypeId} (h : KeptU b w w') (hB : BlkW w c cs T) (hc : c ≠ b) (hT : T ≠ 5) : BlkW w' c cs T := h.same c _ hB hc (fun cs2 fr e => by injection e with _ e2 _; exact hT e2)
theorem BuildP.vne {w : World} {B b : Nat} {m p v : Value} {l : List UInt8} (h : BuildP w B b m l p v) : v.ownBlock ≠ some b := fun e => by
  obtain ⟨cs, hc⟩ := own_cells h.own e
  exact blk_ne h.blk hc (by decide) rfl
theorem BuildP.keep {w w' : World} {B b : Nat} {m p v : Value} {l : List UInt8} (h : BuildP w B b m l p v) (h1 : w'.heap[b]? = w.heap[b]?) (h2 : ∀ g, v.ownBlock = some g → w'.heap[g]? = w.heap[g]?) : BuildP w' B b m l p v :=
  ⟨h.lo, h1.trans h.blk, h.ptr, own_keep h.own h2, h.nil⟩
theorem BuildP.below {w w' : World} {B b : Nat} {m p v : Value} {l : List UInt8} (h : BuildP w B b m l p v) (hb : Below w.heap.size w w') : BuildP w' B b m l p v :=
  h.keep (hb.block b h.blk.lt) fun g hg => hb.block g (by obtain ⟨cs, hc⟩ := own_cells h.own hg; exact hc.lt)
set_option maxHeartbeats 2000000 in
theorem pcheck_fresh (b : Nat) (v m : Value) (w : World) (h : BlkW w b #[.pointer none, v, m] 81) :
    Calls Try.prog 72 #[.pointer (some ⟨b, 0, none⟩)] w fun e w' => e = .returned (.tuple #[]) ∧ w' = w.setCell ⟨b, 0, none⟩ (.pointer (some ⟨b, 0, none⟩)) := by
  have h0 : w.cell? ⟨b, 0, none⟩ = some (.pointer none) := h.cell 0
  have hfz := h.free 0
  have hsh : w.shape? b = some (81, 3) := by
    unfold BlkW at h
    simp [World.shape?, h]
  obtain ⟨j, hj, hjs⟩ := Option.map_eq_some_iff.1 (show (Try.prog.info? 79).map (·.size) = some 2 from by kernel_rfl)
  have hlies : liesAt Try.prog Try.prog.depth 81 (3 / Try.prog.cellsOf 81) 0 79 1 = true := by kernel_rfl
  clear h
  go_enter Try.func72, Try.ntmps72
  go_wp2
  rw [Lib.run_to_unsafe w ⟨b, 0, none⟩ Try.underlying77 Try.underlying100 hj (by rw [hjs]; decide) hsh (Nat.zero_lt_succ 2)]
  simp only [Result.andThen]
  rw [Oper.upon_value]
  go_wp2
  rw [run_callFunc_extern Try.func73 (by kernel_rfl) (by kernel_rfl) (by kernel_rfl) (e := Extern.AbiNoEscape.same) (by kernel_rfl)]
  rw [Lib.run_noEscape]
  simp only [Result.andThen]
  rw [Oper.upon_value]
  go_wp2
  rw [Lib.run_from_unsafe w ⟨b, 0, none⟩ Try.underlying100 Try.underlying77 hj hsh hlies]
  simp only [Result.andThen]
  rw [Oper.upon_value]
  go_wp2
  go_end0
  exact ⟨rfl, rfl⟩
/-- copyCheck. -/
theorem pcheck_any {B b : Nat} {m p v : Value} {l : List UInt8} (w : World) (h : BuildP w B b m l p v) :
    Calls Try.prog 72 #[.pointer (some ⟨b, 0, none⟩)] w fun e w' => e = .returned (.tuple #[]) ∧ BuildP w' B b m l (.pointer (some ⟨b, 0, none⟩)) v ∧ Below B w w' ∧ KeptU b w w' := by
  rcases h.ptr with e | e
  · subst e
    refine (pcheck_fresh b v m w h.blk).mono ?_
    rintro e w' ⟨rfl, rfl⟩
    exact ⟨rfl, ⟨h.lo, h.blk.set_ 0 _, .inr rfl, own_keep h.own fun g hg => Below.heap_setCell _ _ _ _ (fun e => h.vne (by rw [hg, e])), h.nil⟩, (Below.refl B w).setCell (p := ⟨b, 0, none⟩) h.lo _, KeptU.set w 0 _⟩
  · subst e
    refine (Any.Builder_copyCheck_used Try.lays240 Try.Builder_X72_240 b w (h.blk.cell 0)).mono ?_
    rintro e w' ⟨rfl, rfl⟩
    exact ⟨rfl, h, Below.refl B _, KeptU.refl b _⟩
/-- What a call leaves that writes on. -/
def Wrote (w w' : World) (B b : Nat) (m : Value) (l : List UInt8) : Prop := ∃ p v, BuildP w' B b m l p v ∧ Below B w w' ∧ KeptU b w w'
theorem Wrote.after {w w1 w' : World} {B b : Nat} {m : Value} {l : List UInt8} (hb : Below B w w1) (hk : KeptU b w w1) (h : Wrote w1 w' B b m l) : Wrote w w' B b m l := by
  obtain ⟨p, v, h1, h2, h3⟩ := h
  exact ⟨p, v, h1, hb.trans h2, hk.trans h3⟩
set_option maxHeartbeats 2000000 in
theorem pws_any {B b : Nat} {m p v : Value} {l : List UInt8} (s : List UInt8) (w : World) (h : BuildP w B b m l p v) (hB : B ≤ w.heap.size) (hlen : l.length + s.length ≤ 140737488355328) :
    Calls Try.prog 70 #[.pointer (some ⟨b, 0, none⟩), .string (bs s)] w fun e w' => (∃ x, e = .returned x) ∧ Wrote w w' B b m (l ++ s) := by
  have HC := hid (pcheck_any w h)
  obtain ⟨i0, hi, hz0, hz1, hz2⟩ := info_parts info_u8
  have hsz : (bs s).size = s.length := by rw [size_eq]; rfl
  have hsc : strCells (bs s) = byteCells s := by simp [strCells, byteCells, bs]
  have HSZ := hid hsz
  have HSC := hid hsc
  have HB := hid hB
  obtain ⟨SS, hSS⟩ : ∃ SS, bs s = SS := ⟨_, rfl⟩
  rw [hSS] at HSZ HSC ⊢
  clear h hsz hsc hSS hB
  go_enter Try.func70, Try.ntmps70
  go_wp2_with fail
  refine (HC.out).mono ?_
  rintro e w1 ⟨rfl, h1, b1, k1⟩
  obtain ⟨a0, c0, hv0, _⟩ := own_isB h1.own
  have HH := hid h1
  have HB1 := hid b1
  have HK1 := hid k1
  have q1 : w1.cell? ⟨b, 1, none⟩ = some v := h1.blk.cell 1
  have f1 := h1.blk.free 1
  subst hv0
  clear h1 b1 k1
  go_wp2_with (at_builtin; refine wpList_append_own_string w1 rfl _ _ 55 9 rfl B 5 i0 Try.underlying55 Try.underlying9 hi hz0 hz1 hz2 _ l.length (byteCells l) rfl HH.out.own SS rfl (by rw [HSZ.out]; unfold maxLen; omega) (by rw [HSZ.out]; omega) (Nat.le_trans HB.out HB1.out.size) ?_; intro v' w2 own2 gr2 iff2; rw [HSZ.out, HSC.out, ← byteCells_append, ← List.length_append] at own2; have hb2 := HH.out.blk.grow gr2 (Ne.symm HH.out.vne); have q2 : w2.cell? ⟨b, 1, none⟩ = _ := hb2.cell 1; have f2 := hb2.free 1; have HW := hid (show Wrote w1 (w2.setCell ⟨b, 1, none⟩ v') B b m (l ++ s) from ⟨_, v', ⟨HH.out.lo, hb2.set_ 1 v', .inr rfl, own_keep own2 fun g hg => Below.heap_setCell _ _ _ _ (fun e => (by obtain ⟨cs, hc⟩ := own_cells own2 hg; exact blk_ne hb2 hc (by decide) e.symm)), fun e => iff2.2 ⟨HH.out.nil (List.append_eq_nil_iff.1 e).1, by rw [HSZ.out, (List.append_eq_nil_iff.1 e).2]; rfl⟩⟩, ((Below.refl B w1).grown gr2 (Nat.le_trans HB.out HB1.out.size) (own_ge HH.out.own)).setCell (p := ⟨b, 1, none⟩) HH.out.lo v', (KeptU.grown gr2 (fun g hg => (by obtain ⟨cs, hc⟩ := own_cells HH.out.own hg; exact ⟨cs, _, hc⟩))).trans (KeptU.set w2 1 v')⟩); obtain ⟨a2, c2, hv2, _⟩ := own_isB own2; obtain ⟨ln, hln⟩ : ∃ ln, (l ++ s).length = ln := ⟨_, rfl⟩; rw [hln] at hv2; subst hv2; simp only [List.getElem?_toArray, List.getElem?_cons_zero, List.getElem?_cons_succ] at q2; clear own2 gr2 iff2 hb2 hln)
  refine bodyPost_ret (v := .tuple #[.int .i64 SS.size, .nilIface]) (by simp [results, Try.results70, go_sem]) rfl ?_
  exact ⟨⟨_, rfl⟩, HW.out.after HB1.out HK1.out⟩
set_option maxHeartbeats 2000000 in
theorem pwb_any {B b : Nat} {m p v : Value} {l : List UInt8} (c : UInt8) (w : World) (h : BuildP w B b m l p v) (hB : B ≤ w.heap.size) (hlen : l.length + 1 ≤ 140737488355328) :
    Calls Try.prog 71 #[.pointer (some ⟨b, 0, none⟩), .int .u8 (c.toNat : Nat)] w fun e w' => (∃ x, e = .returned x) ∧ Wrote w w' B b m (l ++ [c]) := by
  have HC := hid (pcheck_any w h)
  have HB := hid hB
  obtain ⟨n, hn⟩ : ∃ n, c.toNat = n := ⟨_, rfl⟩
  have HN := hid hn
  rw [hn]
  clear h hB hn
  go_enter Try.func71, Try.ntmps71
  go_wp2_with fail
  refine (HC.out).mono ?_
  rintro e w1 ⟨rfl, h1, b1, k1⟩
  obtain ⟨a0, c0, hv0, _⟩ := own_isB h1.own
  have HH := hid h1
  have HB1 := hid b1
  have HK1 := hid k1
  have q1 : w1.cell? ⟨b, 1, none⟩ = some v := h1.blk.cell 1
  have al : Below w1.heap.size w1 (w1.alloc (.cells #[.int .u8 n] 5)) := (Below.refl _ w1).alloc (Nat.le_refl _) _
  have HA := hid al
  have HNB := hid (show ∀ j, j < ([c] : List UInt8).length → (w1.alloc (.cells #[.int .u8 n] 5)).cell? ((⟨w1.heap.size, 0, none⟩ : Addr).add j) = some (.int .u8 (U8.B [c] j)) from new_bytes w1 [c] #[.int .u8 n] (0, 0) (by rw [← HN.out]; rfl))
  subst hv0
  clear h1 b1 k1 al
  go_wp2_with (at_builtin; refine append_bytes rfl _ _ rfl B _ l rfl (own_below HH.out.own HA.out) ⟨w1.heap.size, 0, none⟩ 1 1 [c] rfl rfl HNB.out (by omega) (Nat.le_trans (Nat.le_trans HB.out HB1.out.size) HA.out.size) ?_; intro v' w2 own2 gr2; have h1a := HH.out.below HA.out; have hb2 := h1a.blk.grow gr2 (Ne.symm h1a.vne); have q2 : w2.cell? ⟨b, 1, none⟩ = _ := hb2.cell 1; have f2 := hb2.free 1; have HW := hid (show Wrote w1 (w2.setCell ⟨b, 1, none⟩ v') B b m (l ++ [c]) from ⟨_, v', ⟨HH.out.lo, hb2.set_ 1 v', .inr rfl, own_keep own2 fun g hg => Below.heap_setCell _ _ _ _ (fun e => (by obtain ⟨cs, hc⟩ := own_cells own2 hg; exact blk_ne hb2 hc (by decide) e.symm)), fun e => by simp at e⟩, ((HA.out.mono (Nat.le_trans HB.out HB1.out.size)).grown gr2 (Nat.le_trans (Nat.le_trans HB.out HB1.out.size) HA.out.size) (own_ge h1a.own)).setCell (p := ⟨b, 1, none⟩) HH.out.lo v', ((KeptU.below HA.out).trans (KeptU.grown gr2 (fun g hg => (by obtain ⟨cs, hc⟩ := own_cells h1a.own hg; exact ⟨cs, _, hc⟩)))).trans (KeptU.set w2 1 v')⟩); obtain ⟨a2, c2, hv2, _⟩ := own_isB own2; obtain ⟨ln, hln⟩ : ∃ ln, (l ++ [c]).length = ln := ⟨_, rfl⟩; rw [hln] at hv2; subst hv2; simp only [List.getElem?_toArray, List.getElem?_cons_zero, List.getElem?_cons_succ] at q2; clear own2 gr2 hb2 hln h1a)
  go_ret
  exact ⟨⟨_, rfl⟩, HW.out.after HB1.out HK1.out⟩
set_option maxHeartbeats 2000000 in
/-- String. -/
theorem pstr_any {B b : Nat} {m p v : Value} {l : List UInt8} (w : World) (h : BuildP w B b m l p v) :
    Calls Try.prog 60 #[.pointer (some ⟨b, 0, none⟩)] w fun e w' => e = .returned (.string (bs l)) ∧ Below B w w' := by
  by_cases h0 : l = []
  · have hv := h.nil h0
    subst h0
    subst hv
    have hUS : (Builtin.unsafeString_ #[93, 3] 9 #[.pointer none, .int .i64 0]).run Try.prog w.drew = .ok (.string ⟨#[]⟩) w.drew := Any.unsafeString_none Try.lays169 Try.Builder_Extra_169 w.drew none
    have c1 : w.drew.cell? ⟨b, 1, none⟩ = some (.slice none 0 0) := h.blk.cell 1
    have hSD : (Builtin.unsafeSliceData_ #[55] 93 #[.slice none 0 0]).run Try.prog w.drew = .ok (.pointer none) w.drew := rfl
    rw [show bs [] = ⟨#[]⟩ from rfl]
    clear h
    go_enter Try.func60, Try.ntmps60
    go_wp2
    go_region
    all_goals (go_wp2; go_ret; exact ⟨rfl, Below.drew (Below.refl B w)⟩)
  · have hl0 : l.length ≠ 0 := by simpa using h0
    obtain ⟨g, cap, cur, rfl, hbg, hg, hnc, hcm, hcs, htake⟩ := h.own.2.resolve_left (fun e => hl0 e.2)
    have c1 : w.drew.cell? ⟨b, 1, none⟩ = some (.slice (some ⟨g, 0, none⟩) l.length cap) := h.blk.cell 1
    have hSD : (Builtin.unsafeSliceData_ #[55] 93 #[.slice (some ⟨g, 0, none⟩) l.length cap]).run Try.prog w.drew = .ok (.pointer (some ⟨g, 0, none⟩)) w.drew :=
      Lib.run_unsafeSliceData_row _ _ _ _ _ _ (by omega)
    have hUS : (Builtin.unsafeString_ #[93, 3] 9 #[.pointer (some ⟨g, 0, none⟩), .int .i64 l.length]).run Try.prog w.drew = .ok (.string ⟨l.toArray⟩) (w.drew.freeze ⟨g, 0, none⟩ l.length) := by
      refine Lib.run_unsafeString_row w.drew 93 3 9 5 Try.underlying93 Try.Builder_Extra_169.cellsByte g cur.size (by have hg' : w.drew.heap[g]? = some (.cells cur 5 (0, 0)) := hg; simp [World.shape?, hg']) l h0 (by omega) (by unfold maxLen at hcm; omega) ?_
      intro j x hx
      have := h.own.cells (g := g) rfl j (.int .u8 x.toNat) (by simp [Lib.byteCells, hx])
      exact this
    rw [show bs l = ⟨l.toArray⟩ from rfl]
    obtain ⟨n, hn⟩ : ∃ n, l.length = n := ⟨_, rfl⟩
    rw [hn] at c1 hSD hUS
    obtain ⟨LL, hLL⟩ : ∃ LL : ByteArray, ⟨l.toArray⟩ = LL := ⟨_, rfl⟩
    rw [hLL] at hUS ⊢
    clear h hn hLL hnc hcs htake hg hl0
    go_enter Try.func60, Try.ntmps60
    go_wp2
    go_region
    all_goals (go_wp2; go_ret; exact ⟨rfl, Lib.below_freeze (Below.drew (Below.refl B w)) (p := ⟨g, 0, none⟩) hbg _⟩)
end Go.Proofs.Ythbklcpjbeelhaa
