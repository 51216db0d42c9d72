/- Plain Lean: what holds of decoding: it keeps texts, it undoes what is escaped; a mark by the table's rows. Nothing of a program stands here. Laws: a map of names that the call itself makes, as a list of rows; the names that the program looks in. Walks: package ent, what a name stands for as a text. -/
import Derived.Test.YtgldgdopabmefaaGreatDoorEnt
import Derived.Test.YtgldgdopabmefaaGreatDoorRefLower
import Derived.Maps.OwnSet
import Derived.Laws.Cover4
namespace Go.Proofs.YtgldgdopabmefaaGreatDoor.Ent
open Go.Lib U8
set_option maxRecDepth 100000
set_option linter.unusedVariables false

/-! ### texts -/
theorem right_encN {c : Nat} (h : TxtC c) : right (encN c) = true := by
  have h1 := dec_enc (c := c) h.2 []
  rw [List.append_nil] at h1
  exact right_char _ (encN_ne c) h1.2.1 (fun e => h.1 (h1.2.2.1 e))
theorem right_isOf {r : Row} (hr : r ∈ tab) : right (isOf r) = true := by
  have h := tab_chars r hr
  unfold isOf textOf
  rw [right_append _ _ (right_encN (by unfold TxtC OkC; omega))]
  split
  · rfl
  · exact right_encN (by unfold TxtC OkC; omega)
/-- Behind bytes that are characters by themselves a text goes on. -/
theorem right_drop : ∀ (n : Nat) (l : List UInt8), right l = true → (∀ j, j < n → B l j < 128) → right (l.drop n) = true
  | 0, l, h, _ => h
  | n + 1, [], h, _ => rfl
  | n + 1, c :: r, h, hj => by
    rw [List.drop_succ_cons]
    have h0 : c.toNat < 128 := hj 0 (by omega)
    have hf : front (c :: r) = (1, true) := by
      unfold front frontN
      have : B (c :: r) 0 = c.toNat := rfl
      rw [this, if_pos h0]
    rw [right_step _ (by simp), hf] at h
    simp only [Bool.and_eq_true] at h
    exact right_drop n r h.2 (fun j hjn => hj (j + 1) (by omega))
theorem hexN_ascii (c : Nat) (h : 0 ≤ hexN c) : c < 128 := by
  unfold hexN at h
  split at h
  · omega
  split at h
  · omega
  split at h <;> omega
theorem run_ascii (base : Nat) (l : List UInt8) : ∀ j, j < (run base l).length → B l j < 128 := by
  intro j hj
  have h1 : B (run base l) j = B l j := by
    conv => lhs; rw [run_take]
    exact B_take _ _ _ hj
  rw [← h1]
  have hm : (run base l)[j] ∈ run base l := List.getElem_mem hj
  have h2 := List.all_takeWhile (p := isDig base) (l := l)
  rw [List.all_eq_true] at h2
  have h3 := h2 _ hm
  unfold isDig at h3
  simp at h3
  rw [B_eq (List.getElem?_eq_getElem hj)]
  exact hexN_ascii _ h3.1
theorem isX_B {l : List UInt8} (h : isX l = true) : B l 1 < 128 := by
  unfold isX at h; simp at h; omega
/-- All that belongs to a reference are characters by themselves. -/
theorem refer_ascii (attr : Bool) (l : List UInt8) : ∀ j, j < (refer attr l).2 → B l j < 128 := by
  intro j hj
  unfold refer at hj
  split at hj
  · rename_i h
    have h1 := digs_le h
    simp only at hj
    by_cases hw : j < numW l
    · unfold numW at hw
      by_cases hh : j < headOf l
      · have : j = 0 ∨ (j = 1 ∧ isX l = true) := by
          unfold headOf at hh
          split at hh
          · rename_i hx
            rcases (show j = 0 ∨ j = 1 by omega) with e | e
            · exact .inl e
            · exact .inr ⟨e, hx⟩
          · left; omega
        rcases this with rfl | ⟨rfl, hx⟩
        · omega
        · exact isX_B hx
      · have hd : digs l = run (baseOf l) (l.drop (headOf l)) := by unfold digs; rw [if_pos ⟨h1.2.2.1, h1.2.2.2.1⟩]
        rw [hd] at hw
        have := run_ascii (baseOf l) (l.drop (headOf l)) (j - headOf l) (by omega)
        rw [B_drop, show headOf l + (j - headOf l) = j by omega] at this
        exact this
    · unfold semiW at hj
      split at hj
      · rename_i hs
        obtain rfl : j = numW l := by omega
        have := hs.2
        rw [B_drop, Nat.add_zero] at this
        omega
      · omega
  · split at hj
    · simp at hj
    · have hb := named_best l
      rcases hb with ⟨e, _, _⟩ | ⟨r, hr, hc, _, _⟩
      · omega
      · have hp := hc.pre
        have hw := hc.wd
        by_cases hl : j < (nm r).length
        · have e : B (nm r) j = B l j := by rw [pre_take hp]; exact B_take _ _ _ hl
          have hm : (nm r)[j] ∈ nm r := List.getElem_mem hl
          have := tab_ascii r hr _ hm
          rw [← e, B_eq (List.getElem?_eq_getElem hl)]
          omega
        · rcases hc with ⟨e, hp2⟩ | ⟨_, e, _⟩
          · have h2 := hp2.length_le
            simp at h2
            have : B l (nm r).length = 59 := (semi_pre (by omega) (pre_take hp)).1 hp2
            have e2 : j = (nm r).length := by omega
            rw [e2, this]; omega
          · omega
theorem refer_right (attr : Bool) (l : List UInt8) : right (refer attr l).1 = true := by
  unfold refer
  split
  · exact right_encN (numZ_okC _)
  · split
    · decide +kernel
    · rename_i h
      rcases named_best l with ⟨e, _, _⟩ | ⟨r, hr, _, e, _⟩
      · exact absurd (.inl e) h
      · rw [e]; exact right_isOf hr
/-- Of a text, what is decoded is a text. -/
theorem decode_right (attr : Bool) : ∀ n (l : List UInt8), l.length ≤ n → right l = true → right (decode attr l) = true := by
  intro n
  induction n with
  | zero => intro l hl _; obtain rfl : l = [] := List.length_eq_zero_iff.1 (by omega); rfl
  | succ n ih =>
    intro l hl h
    by_cases hn : l = []
    · subst hn; rfl
    · have hf := front_le l hn
      by_cases h38 : B l 0 = 38
      · cases l with
        | nil => exact absurd rfl hn
        | cons c r =>
          have hc : c = 38 := UInt8.toNat_inj.1 h38
          subst hc
          rw [decode_amp, right_append _ _ (refer_right attr r)]
          have h1 : right r = true := right_drop 1 (38 :: r) h (fun j hj => by
            obtain rfl : j = 0 := by omega
            show (38 : UInt8).toNat < 128
            decide)
          exact ih _ (by simp at hl ⊢; omega) (right_drop _ r h1 (refer_ascii attr r))
      · have h2 := h
        rw [right_step l hn] at h2
        simp only [Bool.and_eq_true, decide_eq_true_eq] at h2
        obtain ⟨⟨h3, h4⟩, h5⟩ := h2
        have hno : ∀ c ∈ l.take (front l).1, c ≠ 38 := by
          intro c hc
          obtain ⟨j, hj, rfl⟩ := List.mem_iff_getElem.1 hc
          have hj2 : j < (front l).1 := by simp at hj; omega
          intro e
          have hb : B (l.take (front l).1) j = 38 := by rw [B_eq (List.getElem?_eq_getElem hj), e]; rfl
          rw [B_take _ _ _ hj2] at hb
          by_cases h0 : j = 0
          · subst h0; exact h38 hb
          · have := front_tail l j (by omega) hj2; omega
        have e : decode attr l = l.take (front l).1 ++ decode attr (l.drop (front l).1) := by
          rw [← decode_append attr _ _ hno, List.take_append_drop]
        rw [e, right_append _ _ (right_take l hn h3 h4)]
        exact ih _ (by simp; omega) h5

/-! ### what is escaped -/
def esc (l : List UInt8) : List UInt8 := l.flatMap fun c => if c = 38 then [38, 97, 109, 112, 59] else [c]
def bareOf (l : List UInt8) : List UInt8 := l.filter fun c => decide (c ≠ 38)
theorem esc_append (a b : List UInt8) : esc (a ++ b) = esc a ++ esc b := by unfold esc; rw [List.flatMap_append]
theorem bareOf_append (a b : List UInt8) : bareOf (a ++ b) = bareOf a ++ bareOf b := by unfold bareOf; rw [List.filter_append]
theorem amp_in : (([97, 109, 112], 38, 0, true) : Row) ∈ tab := by decide +kernel
theorem refer_amp (attr : Bool) (r : List UInt8) : refer attr (97 :: 109 :: 112 :: 59 :: r) = ([38], 4) := by
  have hd : digs (97 :: 109 :: 112 :: 59 :: r) = [] := by
    unfold digs
    rw [if_neg (fun h => absurd h.2 (by show ¬ (97 : UInt8).toNat = 35; decide))]
  have hn : named (97 :: 109 :: 112 :: 59 :: r) = ([38], 4) := named_semi amp_in ⟨r, rfl⟩
  unfold refer
  rw [if_neg (fun h => h hd), hn, if_neg]
  rintro (h | h)
  · simp at h
  · unfold refuses at h
    rw [hn] at h
    have : B (97 :: 109 :: 112 :: 59 :: r) (4 - 1) = 59 := rfl
    simp [this] at h
theorem decode_esc (attr : Bool) : ∀ l, decode attr (esc l) = l
  | [] => rfl
  | c :: r => by
    have e : esc (c :: r) = (if c = 38 then [38, 97, 109, 112, 59] else [c]) ++ esc r := by unfold esc; rw [List.flatMap_cons]
    rw [e]
    by_cases hc : c = 38
    · rw [if_pos hc]
      show decode attr (38 :: 97 :: 109 :: 112 :: 59 :: esc r) = c :: r
      rw [decode_amp, refer_amp]
      show [38] ++ decode attr (esc r) = c :: r
      rw [decode_esc attr r, hc]; rfl
    · rw [if_neg hc]
      show decode attr (c :: esc r) = c :: r
      rw [decode_other attr c _ hc, decode_esc attr r]
theorem decode_bare (attr : Bool) (l : List UInt8) : decode attr (bareOf l) = bareOf l := by
  have := decode_append attr (bareOf l) [] (fun c hc => by
    unfold bareOf at hc
    have := (List.mem_filter.1 hc).2
    simpa using this)
  simpa [decode_nil] using this
theorem esc_le : ∀ l, (esc l).length ≤ 5 * l.length
  | [] => by simp [esc]
  | c :: r => by
    have e : esc (c :: r) = (if c = 38 then [38, 97, 109, 112, 59] else [c]) ++ esc r := by unfold esc; rw [List.flatMap_cons]
    have := esc_le r
    rw [e, List.length_append, List.length_cons]
    split <;> simp <;> omega
theorem bareOf_le (l : List UInt8) : (bareOf l).length ≤ l.length := List.length_filter_le _ _

/-! ### marks, row by row -/
def pat (r : Row) : List UInt8 := [38] ++ nm r ++ [59]
/-- The first row whose name stands between '&' and its sign. -/
def rowMark (l : List UInt8) : List UInt8 × Nat :=
  match tab.find? (fun r => (pat r).isPrefixOf l) with
  | some r => (isOf r, (nm r).length + 2)
  | none => ([], 0)
theorem rowMark_eq (l : List UInt8) (hd : l ≠ [] → B l 0 = 38 → digs (l.drop 1) = []) : rowMark l = mark l := by
  have hp : ∀ r, (pat r).isPrefixOf l = true ↔ (B l 0 = 38 ∧ l ≠ [] ∧ nm r ++ [59] <+: l.drop 1) := by
    intro r
    rw [List.isPrefixOf_iff_prefix]
    cases l with
    | nil => simp [pat]
    | cons c q =>
      show 38 :: (nm r ++ [59]) <+: c :: q ↔ _
      rw [List.cons_prefix_cons]
      have : B (c :: q) 0 = c.toNat := rfl
      rw [this]
      constructor
      · rintro ⟨rfl, h⟩; exact ⟨rfl, by simp, h⟩
      · rintro ⟨h1, _, h⟩; exact ⟨(UInt8.toNat_inj.1 h1).symm, h⟩
  unfold rowMark
  cases l with
  | nil =>
    have : tab.find? (fun r => (pat r).isPrefixOf []) = none := by
      rw [List.find?_eq_none]
      intro r _ h
      exact ((hp r).1 h).2.1 rfl
    rw [this]; rfl
  | cons c q =>
    by_cases hc : c = 38
    · subst hc
      have hdq : digs q = [] := hd (by simp) rfl
      have em : mark (38 :: q) = markR q := rfl
      rw [em]
      unfold markR
      rw [if_neg (fun h => h hdq)]
      cases hf : tab.find? (fun r => (pat r).isPrefixOf (38 :: q)) with
      | some r =>
        have hr := List.mem_of_find?_eq_some hf
        have h2 := ((hp r).1 (by simpa using List.find?_some hf)).2.2
        have hn := named_semi hr h2
        simp only [List.drop_succ_cons, List.drop_zero] at hn h2
        have hb : B q (nm r).length = 59 := (semi_pre (by have := h2.length_le; simp at this; omega) (pre_take ((List.prefix_append _ _).trans h2))).1 h2
        rw [hn, if_neg]
        · simp only [Prod.mk.injEq, true_and]; omega
        · rintro (h | h)
          · simp at h
          · simp only [Nat.add_sub_cancel] at h; exact h hb
      | none =>
        rw [if_pos]
        rw [List.find?_eq_none] at hf
        rcases named_best q with ⟨e, _, _⟩ | ⟨r, hr, hc, _, _⟩
        · exact .inl e
        · right
          rcases hc with ⟨e, h⟩ | ⟨_, e, h⟩
          · exact absurd ((hp r).2 ⟨rfl, by simp, h⟩) (hf r hr)
          · intro hb
            have hl := tab_len r hr
            rw [e] at hb
            have hlt : (nm r).length - 1 < (nm r).length := by omega
            have e2 : B (nm r) ((nm r).length - 1) = 59 := by
              rw [← hb]
              have e3 := B_take q (nm r).length _ hlt
              rw [← pre_take h] at e3
              exact e3
            have hx : (nm r)[(nm r).length - 1] = 59 := by
              apply UInt8.toNat_inj.1
              rw [B_eq (List.getElem?_eq_getElem hlt)] at e2
              exact e2
            exact sign_mem (tab_sign r hr).1 (by rw [← hx]; exact List.getElem_mem _)
    · have em : mark (c :: q) = ([], 0) := by show (if c = 38 then markR q else ([], 0)) = _; rw [if_neg hc]
      have : tab.find? (fun r => (pat r).isPrefixOf (c :: q)) = none := by
        rw [List.find?_eq_none]
        intro r _ h
        exact hc (UInt8.toNat_inj.1 ((hp r).1 h).1)
      rw [this, em]
end Go.Proofs.YtgldgdopabmefaaGreatDoor.Ent
namespace Go.Proofs.YtgldgdopabmefaaGreatDoor
open Go.RowKit Go.Lib Ent
open Go.WideElems (Fit rd rg pl rd_val elemAt)
open Go.Maps (Keyed has)
set_option maxRecDepth 100000
set_option linter.unusedVariables false

/-- What a row is in the map. -/
def meanV (a b : Nat) (x : Bool) : Value := .agg #[.int .i32 a, .int .i32 b, .bool x]
def rowV (r : Row) : Value := meanV (one1 r) (two1 r) (bare r)
/-- How such an element reads. -/
def meanR (v : Value) : Option (DataW Unit × List MemPlace) :=
  match v with
  | .agg cs => match cs.toList with
    | [.int .i32 a, .int .i32 b, .bool x] => some (.agg [.lit (.int .i32 a), .lit (.int .i32 b), .lit (.bool x)], [])
    | _ => none
  | _ => none
def rowD (r : Row) : DataW Unit := .agg [.lit (.int .i32 (one1 r : Nat)), .lit (.int .i32 (two1 r : Nat)), .lit (.bool (bare r))]
def zeroD : DataW Unit := .agg [.lit (.int .i32 0), .lit (.int .i32 0), .lit (.bool false)]
theorem meanR_row (r : Row) : meanR (rowV r) = some (rowD r, []) := rfl
theorem meanR_zero : meanR (meanV 0 0 false) = some (zeroD, []) := rfl
theorem meanR_inv {v : Value} {ps : List MemPlace} {a b : Int} {x : Bool} (h : meanR v = some (.agg [.lit (.int .i32 a), .lit (.int .i32 b), .lit (.bool x)], ps)) : v = .agg #[.int .i32 a, .int .i32 b, .bool x] := by
  unfold meanR at h
  split at h
  · rename_i cs
    split at h
    · rename_i a' b' x' hcs
      obtain ⟨cs⟩ := cs
      simp at hcs h
      rw [hcs]
      simp [h]
    · cases h
  · cases h
def keyD (r : Row) : Lit := .string (nm r)
/-- The datum of a map, the last row that was stored first. -/
def mapD : List Row → DataW Unit
  | [] => .map []
  | r :: t => (mapD t).put (keyD r) (rowD r)
theorem isMap_mapD : ∀ t, Maps.IsMap (mapD t)
  | [] => Maps.isMap_empty
  | r :: t => (isMap_mapD t).put _ _
theorem has_mapD (k : List UInt8) : ∀ t, has (mapD t) (.string k) = (Ent.look t k).isSome
  | [] => rfl
  | r :: t => by
    unfold Ent.look
    rw [List.find?_cons]
    by_cases h : nm r = k
    · have hb : (nm r == k) = true := by simpa using h
      rw [hb]
      show has ((mapD t).put (keyD r) (rowD r)) (.string k) = true
      rw [← h]
      exact Maps.has_put_same (k := keyD r) (isMap_mapD t) (by simp [keyD, WideAt.IsKeyLit]) _
    · have hb : (nm r == k) = false := by simpa using h
      rw [hb]
      show has ((mapD t).put (keyD r) (rowD r)) (.string k) = _
      rw [Maps.has_put_other (fun e => h (by unfold keyD at e; injection e with e; exact e.symm))]
      exact has_mapD k t
theorem at_mapD (k : List UInt8) : ∀ t, (mapD t).atKey (.string k) zeroD = ((Ent.look t k).map rowD).getD zeroD
  | [] => rfl
  | r :: t => by
    unfold Ent.look
    rw [List.find?_cons]
    by_cases h : nm r = k
    · have hb : (nm r == k) = true := by simpa using h
      rw [hb]
      show ((mapD t).put (keyD r) (rowD r)).atKey (.string k) zeroD = rowD r
      rw [← h]
      exact Maps.atKey_put_same (k := keyD r) (isMap_mapD t) (by simp [keyD, WideAt.IsKeyLit]) _ _
    · have hb : (nm r == k) = false := by simpa using h
      rw [hb]
      show ((mapD t).put (keyD r) (rowD r)).atKey (.string k) zeroD = _
      rw [Maps.atKey_put_other (fun e => h (by unfold keyD at e; injection e with e; exact e.symm))]
      exact at_mapD k t
/-- Block b is a map of these rows. -/
def IsTab (w : World) (b : Nat) (t : List Row) : Prop := w.ownsMap Tryz.prog 9 meanR b t.length (mapD t)
theorem IsTab.below {w w' : World} {b : Nat} {t : List Row} (h : IsTab w b t) (hb : Below w.heap.size w w') : IsTab w' b t :=
  h.kept (row := none) ⟨hb.os, hb.tape, hb.output, hb.size, fun k hk _ => hb.block k hk⟩ (by simp)
theorem isTab_made (w : World) : IsTab (w.alloc (.map #[] 0)) w.heap.size [] := World.ownsMap_made _ _ _ _
/-- A map in work: block b, made since w0. -/
def TabIn (w0 w : World) (t : List Row) : Prop := IsTab w w0.heap.size t ∧ Below w0.heap.size w0 w
theorem tabIn_made (w : World) : TabIn w (w.alloc (.map #[] 0)) [] := ⟨isTab_made w, (Below.refl _ _).alloc (Nat.le_refl _) _⟩
theorem keyed_string : Keyed Tryz.prog 9 := Maps.string_keyed Tryz.underlying9
theorem zeroE (w : World) : (zeroValue 122).run Tryz.prog w = .ok (meanV 0 0 false) w := by kernel_rfl

/-- A row of the literal is stored. -/
theorem wpList_insert {w : World} {ops : Array Oper} {rest : List Oper} {o : Oper} {a : Act} {Q : Exit → Act → World → Prop} (hg : o.guard = none) (m v : Operand) (l : List UInt8)
    (hop : o.op = .insert 119 m (.const (.string ⟨l.toArray⟩)) v) (w0 : World) (t : List Row) (h : TabIn w0 w t) (hm : a.eval m = .map (some w0.heap.size)) (x y : Int) (z : Bool) (hv : a.eval v = .agg #[.int .i32 x, .int .i32 y, .bool z])
    (hx : 0 ≤ x) (hy : 0 ≤ y) (hl : t.length < 1000) (hr : l.length ≤ 1000) (hd : o.dst = none)
    (k : ∀ w', TabIn w0 w' ((l, x.toNat, y.toNat, z) :: t) → wpList Tryz.prog ops Q rest a w') : wpList Tryz.prog ops Q (o :: rest) a w := by
  refine wpList_plain hg fun K hK => ?_
  have hv2 : a.eval v = rowV (l, x.toNat, y.toNat, z) := by
    rw [hv]
    show _ = Value.agg #[.int .i32 ((x.toNat : Nat) : Int), .int .i32 ((y.toNat : Nat) : Int), .bool z]
    rw [Int.toNat_of_nonneg hx, Int.toNat_of_nonneg hy]
  obtain ⟨w', hrun, h1, h2⟩ := h.1.update keyed_string Tryz.underlying119 (by unfold maxLen; omega) (key := .string ⟨l.toArray⟩) (kl := keyD (l, x.toNat, y.toNat, z)) (Go.WideMaps.keyOf_string_mk Tryz.underlying9 (by rw [size_eq]; unfold maxLen; show l.length ≤ _; omega)) (meanR_row (l, x.toNat, y.toNat, z))
  unfold Oper.wp
  have hc : a.eval (.const (.string ⟨l.toArray⟩)) = .string ⟨l.toArray⟩ := rfl
  simp only [execOp, hop, hm, hv2, hc]
  rw [show ((do (Instr.mapUpdate 119 (.map (some w0.heap.size)) (.string ⟨l.toArray⟩) (rowV (l, x.toNat, y.toNat, z))); pure Next.skip : Sem Next).run Tryz.prog w) = .ok .skip w' by simp [hrun, Result.andThen]]
  refine hK _ _ ?_
  rw [hd]
  exact k w' ⟨h1, h.2.grown h2 h.2.size (fun k hk => by cases hk; exact Nat.le_refl _)⟩
/-- What a look-up tells. -/
def lookV (t : List Row) (k : List UInt8) : Value := .tuple #[((Ent.look t k).map rowV).getD (meanV 0 0 false), .bool (Ent.look t k).isSome]
theorem run_lookup {w : World} {b : Nat} {t : List Row} (h : IsTab w b t) (s : ByteArray) (hs : s.size ≤ 1000000) :
    (Instr.lookup 119 (.map (some b)) (.string s) true).run Tryz.prog w = .ok (lookV t s.data.toList) w := by
  obtain ⟨v, ps, hrun, hv⟩ := h.look_ok keyed_string Tryz.underlying119 (zeroE w) meanR_zero (key := .string s) (kl := .string s.data.toList) (Go.WideMaps.keyOf_string_mk Tryz.underlying9 (by unfold maxLen; omega))
  rw [hrun, has_mapD]
  rw [at_mapD] at hv
  unfold lookV
  cases hl : Ent.look t s.data.toList with
  | none =>
    rw [hl] at hv
    rw [meanR_inv hv]; rfl
  | some r =>
    rw [hl] at hv
    rw [meanR_inv hv]; rfl
theorem look_subr {k : List UInt8} {r : Row} (h : Ent.look (sub (U8.B k 0)).reverse k = some r) : r ∈ tab ∧ nm r = k :=
  ⟨(in_sub _).1 r (List.mem_reverse.1 (look_some h).1), (look_some h).2⟩
theorem look_subr_none {k : List UInt8} (h : Ent.look (sub (U8.B k 0)).reverse k = none) : ∀ r ∈ tab, nm r ≠ k :=
  fun r hr e => look_none h r (List.mem_reverse.2 ((in_sub _).2 r hr (by rw [e]))) e
end Go.Proofs.YtgldgdopabmefaaGreatDoor
namespace Go.Proofs.YtgldgdopabmefaaGreatDoor
open Go.RowKit Go.Lib Ent
set_option maxRecDepth 100000
set_option linter.unusedVariables false

theorem enc_ok {c : Nat} (h : OkC c) : Utf8.encode (c : Int) = ⟨(encN c).toArray⟩ := by
  apply ByteArray.ext
  apply Array.ext'
  exact encL_ok h
theorem conv_two (w : World) (a b : Nat) (ha : OkC a) (hb : OkC b) : (convert 91 9 (.slice (some ⟨w.heap.size, 0, none⟩) 2 2)).run Tryz.prog (w.alloc (.cells #[.int .i32 a, .int .i32 b] 21)) = .ok (.string ⟨(encN a ++ encN b).toArray⟩) (w.alloc (.cells #[.int .i32 a, .int .i32 b] 21)) := by
  have h := run_convert_runes (P := Tryz.prog) (w.alloc (.cells #[.int .i32 a, .int .i32 b] 21)) 91 9 21 ⟨w.heap.size, 0, none⟩ 2 2 [(a : Int), (b : Int)] (by simp) Tryz.underlying91 Tryz.underlying21 Tryz.underlying9 (fun j hj => by
    rw [addr_add, Nat.zero_add, World.cell?_alloc_new]
    match j, hj with
    | 0, _ => rfl
    | 1, _ => rfl)
  rw [h]
  have hrb := runesBytes_encs [a, b] (by simp [ha, hb])
  simp only [List.map_cons, List.map_nil] at hrb
  have e : runesBytes [(a : Int), (b : Int)] = ⟨(encN a ++ encN b).toArray⟩ := by
    apply ByteArray.ext
    apply Array.ext'
    have e2 : encs [a, b] = encN a ++ encN b := by simp [encs]
    rw [hrb, e2]
  show Result.ok (Value.string (runesBytes [(a : Int), (b : Int)])) _ = _
  rw [e]
theorem conv_one (w : World) (a : Nat) (ha : OkC a) : (convert 91 9 (.slice (some ⟨w.heap.size, 0, none⟩) 1 1)).run Tryz.prog (w.alloc (.cells #[.int .i32 a] 21)) = .ok (.string ⟨(encN a).toArray⟩) (w.alloc (.cells #[.int .i32 a] 21)) := by
  have h := run_convert_runes (P := Tryz.prog) (w.alloc (.cells #[.int .i32 a] 21)) 91 9 21 ⟨w.heap.size, 0, none⟩ 1 1 [(a : Int)] (by simp) Tryz.underlying91 Tryz.underlying21 Tryz.underlying9 (fun j hj => by
    rw [addr_add, Nat.zero_add, World.cell?_alloc_new]
    match j, hj with
    | 0, _ => rfl)
  rw [h]
  show Result.ok (Value.string (runesBytes [(a : Int)])) _ = _
  rw [runes_one, enc_ok ha]
set_option maxHeartbeats 1000000 in
theorem mtext_any (a b : Nat) (x : Bool) (ha : OkC a) (hb : OkC b) (w : World) :
    Calls Tryz.prog 104 #[meanV a b x] w fun e w' => e = .returned (.string ⟨(textOf a b).toArray⟩) ∧ Below w.heap.size w w' := by
  unfold meanV
  have hla : a ≤ 1114111 := by unfold OkC at ha; omega
  have hlb : b ≤ 1114111 := by unfold OkC at hb; omega
  by_cases h0 : b = 0
  · have e : textOf a b = encN a := by unfold textOf; rw [if_pos h0, List.append_nil]
    rw [e]
    have HE := hid (enc_ok ha)
    have hz : ((b : Int) == 0) = true := by rw [h0]; rfl
    clear e h0 ha hb
    go_enter Tryz.func104, Tryz.ntmps104
    go_wp2
    go_ret
    exact ⟨by rw [← HE.out]; rfl, (Below.refl _ _).alloc (Nat.le_refl _) _⟩
  · have e : textOf a b = encN a ++ encN b := by unfold textOf; rw [if_neg h0]
    rw [e]
    have hz : ((b : Int) == 0) = false := beq_eq_false_iff_ne.2 (by omega)
    have hcv := conv_two (w.alloc (.cells #[.int .i32 a, .int .i32 b, .bool x] 122)) a b ha hb
    rw [show (w.alloc (.cells #[.int .i32 a, .int .i32 b, .bool x] 122)).heap.size = w.heap.size + 1 by simp] at hcv
    clear e h0 ha hb
    go_enter Tryz.func104, Tryz.ntmps104
    go_wp2
    go_ret
    exact ⟨rfl, ((Below.refl _ _).alloc (Nat.le_refl _) _).alloc (by simp) _⟩
end Go.Proofs.YtgldgdopabmefaaGreatDoor
