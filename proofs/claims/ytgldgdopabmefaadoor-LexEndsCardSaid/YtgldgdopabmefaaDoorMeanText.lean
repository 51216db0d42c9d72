/- Laws: a map of names that the call itself makes, as a list of rows; the names that the program looks in. Walks: package ent, what a name stands for as a text. -/
import Derived.Test.YtgldgdopabmefaaDoorEntMore
import Derived.Test.YtgldgdopabmefaaDoorLwInv
import Derived.Maps.OwnSet
import Derived.Laws.Cover4
namespace Go.Proofs.YtgldgdopabmefaaDoor
open Go.RowKit Go.Lib Ent
open Go.WideElems (Fit rd rg pl rd_val elemAt)
open Go.Maps (Keyed has)
set_option maxRecDepth 100000
set_option linter.unusedVariables false

/-- What a row is in the map. -/
def meanV (a b : Nat) (x : Bool) : Value := .agg #[.int .i32 a, .int .i32 b, .bool x]
def rowV (r : Row) : Value := meanV (one1 r) (two1 r) (bare r)
/-- How such an element reads. -/
def meanR (v : Value) : Option (DataW Unit × List MemPlace) :=
  match v with
  | .agg cs => match cs.toList with
    | [.int .i32 a, .int .i32 b, .bool x] => some (.agg [.lit (.int .i32 a), .lit (.int .i32 b), .lit (.bool x)], [])
    | _ => none
  | _ => none
def rowD (r : Row) : DataW Unit := .agg [.lit (.int .i32 (one1 r : Nat)), .lit (.int .i32 (two1 r : Nat)), .lit (.bool (bare r))]
def zeroD : DataW Unit := .agg [.lit (.int .i32 0), .lit (.int .i32 0), .lit (.bool false)]
theorem meanR_row (r : Row) : meanR (rowV r) = some (rowD r, []) := rfl
theorem meanR_zero : meanR (meanV 0 0 false) = some (zeroD, []) := rfl
theorem meanR_inv {v : Value} {ps : List MemPlace} {a b : Int} {x : Bool} (h : meanR v = some (.agg [.lit (.int .i32 a), .lit (.int .i32 b), .lit (.bool x)], ps)) : v = .agg #[.int .i32 a, .int .i32 b, .bool x] := by
  unfold meanR at h
  split at h
  · rename_i cs
    split at h
    · rename_i a' b' x' hcs
      obtain ⟨cs⟩ := cs
      simp at hcs h
      rw [hcs]
      simp [h]
    · cases h
  · cases h
def keyD (r : Row) : Lit := .string (nm r)
/-- The datum of a map, the last row that was stored first. -/
def mapD : List Row → DataW Unit
  | [] => .map []
  | r :: t => (mapD t).put (keyD r) (rowD r)
theorem isMap_mapD : ∀ t, Maps.IsMap (mapD t)
  | [] => Maps.isMap_empty
  | r :: t => (isMap_mapD t).put _ _
theorem has_mapD (k : List UInt8) : ∀ t, has (mapD t) (.string k) = (Ent.look t k).isSome
  | [] => rfl
  | r :: t => by
    unfold Ent.look
    rw [List.find?_cons]
    by_cases h : nm r = k
    · have hb : (nm r == k) = true := by simpa using h
      rw [hb]
      show has ((mapD t).put (keyD r) (rowD r)) (.string k) = true
      rw [← h]
      exact Maps.has_put_same (k := keyD r) (isMap_mapD t) (by simp [keyD, WideAt.IsKeyLit]) _
    · have hb : (nm r == k) = false := by simpa using h
      rw [hb]
      show has ((mapD t).put (keyD r) (rowD r)) (.string k) = _
      rw [Maps.has_put_other (fun e => h (by unfold keyD at e; injection e with e; exact e.symm))]
      exact has_mapD k t
theorem at_mapD (k : List UInt8) : ∀ t, (mapD t).atKey (.string k) zeroD = ((Ent.look t k).map rowD).getD zeroD
  | [] => rfl
  | r :: t => by
    unfold Ent.look
    rw [List.find?_cons]
    by_cases h : nm r = k
    · have hb : (nm r == k) = true := by simpa using h
      rw [hb]
      show ((mapD t).put (keyD r) (rowD r)).atKey (.string k) zeroD = rowD r
      rw [← h]
      exact Maps.atKey_put_same (k := keyD r) (isMap_mapD t) (by simp [keyD, WideAt.IsKeyLit]) _ _
    · have hb : (nm r == k) = false := by simpa using h
      rw [hb]
      show ((mapD t).put (keyD r) (rowD r)).atKey (.string k) zeroD = _
      rw [Maps.atKey_put_other (fun e => h (by unfold keyD at e; injection e with e; exact e.symm))]
      exact at_mapD k t
/-- Block b is a map of these rows. -/
def IsTab (w : World) (b : Nat) (t : List Row) : Prop := w.ownsMap Tryd.prog 9 meanR b t.length (mapD t)
theorem IsTab.below {w w' : World} {b : Nat} {t : List Row} (h : IsTab w b t) (hb : Below w.heap.size w w') : IsTab w' b t :=
  h.kept (row := none) ⟨hb.os, hb.tape, hb.output, hb.size, fun k hk _ => hb.block k hk⟩ (by simp)
theorem isTab_made (w : World) : IsTab (w.alloc (.map #[] 0)) w.heap.size [] := World.ownsMap_made _ _ _ _
/-- A map in work: block b, made since w0. -/
def TabIn (w0 w : World) (t : List Row) : Prop := IsTab w w0.heap.size t ∧ Below w0.heap.size w0 w
theorem tabIn_made (w : World) : TabIn w (w.alloc (.map #[] 0)) [] := ⟨isTab_made w, (Below.refl _ _).alloc (Nat.le_refl _) _⟩
theorem keyed_string : Keyed Tryd.prog 9 := Maps.string_keyed Tryd.underlying9
theorem zeroE (w : World) : (zeroValue 103).run Tryd.prog w = .ok (meanV 0 0 false) w := by kernel_rfl

/-- A row of the literal is stored. -/
theorem wpList_insert {w : World} {ops : Array Oper} {rest : List Oper} {o : Oper} {a : Act} {Q : Exit → Act → World → Prop} (hg : o.guard = none) (m v : Operand) (l : List UInt8)
    (hop : o.op = .insert 100 m (.const (.string ⟨l.toArray⟩)) v) (w0 : World) (t : List Row) (h : TabIn w0 w t) (hm : a.eval m = .map (some w0.heap.size)) (x y : Int) (z : Bool) (hv : a.eval v = .agg #[.int .i32 x, .int .i32 y, .bool z])
    (hx : 0 ≤ x) (hy : 0 ≤ y) (hl : t.length < 1000) (hr : l.length ≤ 1000) (hd : o.dst = none)
    (k : ∀ w', TabIn w0 w' ((l, x.toNat, y.toNat, z) :: t) → wpList Tryd.prog ops Q rest a w') : wpList Tryd.prog ops Q (o :: rest) a w := by
  refine wpList_plain hg fun K hK => ?_
  have hv2 : a.eval v = rowV (l, x.toNat, y.toNat, z) := by
    rw [hv]
    show _ = Value.agg #[.int .i32 ((x.toNat : Nat) : Int), .int .i32 ((y.toNat : Nat) : Int), .bool z]
    rw [Int.toNat_of_nonneg hx, Int.toNat_of_nonneg hy]
  obtain ⟨w', hrun, h1, h2⟩ := h.1.update keyed_string Tryd.underlying100 (by unfold maxLen; omega) (key := .string ⟨l.toArray⟩) (kl := keyD (l, x.toNat, y.toNat, z)) (Go.WideMaps.keyOf_string_mk Tryd.underlying9 (by rw [size_eq]; unfold maxLen; show l.length ≤ _; omega)) (meanR_row (l, x.toNat, y.toNat, z))
  unfold Oper.wp
  have hc : a.eval (.const (.string ⟨l.toArray⟩)) = .string ⟨l.toArray⟩ := rfl
  simp only [execOp, hop, hm, hv2, hc]
  rw [show ((do (Instr.mapUpdate 100 (.map (some w0.heap.size)) (.string ⟨l.toArray⟩) (rowV (l, x.toNat, y.toNat, z))); pure Next.skip : Sem Next).run Tryd.prog w) = .ok .skip w' by simp [hrun, Result.andThen]]
  refine hK _ _ ?_
  rw [hd]
  exact k w' ⟨h1, h.2.grown h2 h.2.size (fun k hk => by cases hk; exact Nat.le_refl _)⟩
/-- What a look-up tells. -/
def lookV (t : List Row) (k : List UInt8) : Value := .tuple #[((Ent.look t k).map rowV).getD (meanV 0 0 false), .bool (Ent.look t k).isSome]
theorem run_lookup {w : World} {b : Nat} {t : List Row} (h : IsTab w b t) (s : ByteArray) (hs : s.size ≤ 1000000) :
    (Instr.lookup 100 (.map (some b)) (.string s) true).run Tryd.prog w = .ok (lookV t s.data.toList) w := by
  obtain ⟨v, ps, hrun, hv⟩ := h.look_ok keyed_string Tryd.underlying100 (zeroE w) meanR_zero (key := .string s) (kl := .string s.data.toList) (Go.WideMaps.keyOf_string_mk Tryd.underlying9 (by unfold maxLen; omega))
  rw [hrun, has_mapD]
  rw [at_mapD] at hv
  unfold lookV
  cases hl : Ent.look t s.data.toList with
  | none =>
    rw [hl] at hv
    rw [meanR_inv hv]; rfl
  | some r =>
    rw [hl] at hv
    rw [meanR_inv hv]; rfl
theorem look_subr {k : List UInt8} {r : Row} (h : Ent.look (sub (U8.B k 0)).reverse k = some r) : r ∈ tab ∧ nm r = k :=
  ⟨(in_sub _).1 r (List.mem_reverse.1 (look_some h).1), (look_some h).2⟩
theorem look_subr_none {k : List UInt8} (h : Ent.look (sub (U8.B k 0)).reverse k = none) : ∀ r ∈ tab, nm r ≠ k :=
  fun r hr e => look_none h r (List.mem_reverse.2 ((in_sub _).2 r hr (by rw [e]))) e
end Go.Proofs.YtgldgdopabmefaaDoor
namespace Go.Proofs.YtgldgdopabmefaaDoor
open Go.RowKit Go.Lib Ent
set_option maxRecDepth 100000
set_option linter.unusedVariables false

theorem enc_ok {c : Nat} (h : OkC c) : Utf8.encode (c : Int) = ⟨(encN c).toArray⟩ := by
  apply ByteArray.ext
  apply Array.ext'
  exact encL_ok h
theorem conv_two (w : World) (a b : Nat) (ha : OkC a) (hb : OkC b) : (convert 109 9 (.slice (some ⟨w.heap.size, 0, none⟩) 2 2)).run Tryd.prog (w.alloc (.cells #[.int .i32 a, .int .i32 b] 21)) = .ok (.string ⟨(encN a ++ encN b).toArray⟩) (w.alloc (.cells #[.int .i32 a, .int .i32 b] 21)) := by
  have h := run_convert_runes (P := Tryd.prog) (w.alloc (.cells #[.int .i32 a, .int .i32 b] 21)) 109 9 21 ⟨w.heap.size, 0, none⟩ 2 2 [(a : Int), (b : Int)] (by simp) Tryd.underlying109 Tryd.underlying21 Tryd.underlying9 (fun j hj => by
    rw [addr_add, Nat.zero_add, World.cell?_alloc_new]
    match j, hj with
    | 0, _ => rfl
    | 1, _ => rfl)
  rw [h]
  have hrb := runesBytes_encs [a, b] (by simp [ha, hb])
  simp only [List.map_cons, List.map_nil] at hrb
  have e : runesBytes [(a : Int), (b : Int)] = ⟨(encN a ++ encN b).toArray⟩ := by
    apply ByteArray.ext
    apply Array.ext'
    have e2 : encs [a, b] = encN a ++ encN b := by simp [encs]
    rw [hrb, e2]
  show Result.ok (Value.string (runesBytes [(a : Int), (b : Int)])) _ = _
  rw [e]
theorem conv_one (w : World) (a : Nat) (ha : OkC a) : (convert 109 9 (.slice (some ⟨w.heap.size, 0, none⟩) 1 1)).run Tryd.prog (w.alloc (.cells #[.int .i32 a] 21)) = .ok (.string ⟨(encN a).toArray⟩) (w.alloc (.cells #[.int .i32 a] 21)) := by
  have h := run_convert_runes (P := Tryd.prog) (w.alloc (.cells #[.int .i32 a] 21)) 109 9 21 ⟨w.heap.size, 0, none⟩ 1 1 [(a : Int)] (by simp) Tryd.underlying109 Tryd.underlying21 Tryd.underlying9 (fun j hj => by
    rw [addr_add, Nat.zero_add, World.cell?_alloc_new]
    match j, hj with
    | 0, _ => rfl)
  rw [h]
  show Result.ok (Value.string (runesBytes [(a : Int)])) _ = _
  rw [runes_one, enc_ok ha]
set_option maxHeartbeats 1000000 in
theorem mtext_any (a b : Nat) (x : Bool) (ha : OkC a) (hb : OkC b) (w : World) :
    Calls Tryd.prog 72 #[meanV a b x] w fun e w' => e = .returned (.string ⟨(textOf a b).toArray⟩) ∧ Below w.heap.size w w' := by
  unfold meanV
  have hla : a ≤ 1114111 := by unfold OkC at ha; omega
  have hlb : b ≤ 1114111 := by unfold OkC at hb; omega
  by_cases h0 : b = 0
  · have e : textOf a b = encN a := by unfold textOf; rw [if_pos h0, List.append_nil]
    rw [e]
    have HE := hid (enc_ok ha)
    have hz : ((b : Int) == 0) = true := by rw [h0]; rfl
    clear e h0 ha hb
    go_enter Tryd.func72, Tryd.ntmps72
    go_wp2
    go_ret
    exact ⟨by rw [← HE.out]; rfl, (Below.refl _ _).alloc (Nat.le_refl _) _⟩
  · have e : textOf a b = encN a ++ encN b := by unfold textOf; rw [if_neg h0]
    rw [e]
    have hz : ((b : Int) == 0) = false := beq_eq_false_iff_ne.2 (by omega)
    have hcv := conv_two (w.alloc (.cells #[.int .i32 a, .int .i32 b, .bool x] 103)) a b ha hb
    rw [show (w.alloc (.cells #[.int .i32 a, .int .i32 b, .bool x] 103)).heap.size = w.heap.size + 1 by simp] at hcv
    clear e h0 ha hb
    go_enter Tryd.func72, Tryd.ntmps72
    go_wp2
    go_ret
    exact ⟨rfl, ((Below.refl _ _).alloc (Nat.le_refl _) _).alloc (by simp) _⟩
end Go.Proofs.YtgldgdopabmefaaDoor
