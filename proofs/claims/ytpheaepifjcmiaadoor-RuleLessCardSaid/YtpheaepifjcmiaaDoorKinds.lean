/- Walks: package rule, the maps of names that it makes, and what it finds there. -/
import Derived.Test.YtpheaepifjcmiaaDoorRule
import Derived.Test.YtpheaepifjcmiaaDoorOwn
import Derived.Maps.OwnSet
import Derived.Carry
namespace Go.Proofs.YtpheaepifjcmiaaDoor
open Go.RowKit Go.Lib Rule
open Go.Maps (Keyed has)
set_option maxRecDepth 100000
set_option linter.unusedVariables false

/-- How a map's element reads. -/
def kR (v : Value) : Option (DataW Unit × List MemPlace) :=
  match v with
  | .int .u8 a => some (.lit (.int .u8 a), [])
  | _ => none
def kD (n : Nat) : DataW Unit := .lit (.int .u8 (n : Nat))
theorem kR_inv {v : Value} {ps : List MemPlace} {a : Int} (h : kR v = some (.lit (.int .u8 a), ps)) : v = .int .u8 a := by
  unfold kR at h
  split at h
  · simp at h; rw [h.1]
  · cases h
def keyK (r : Row) : Lit := .string (nm r)
/-- The datum of a map, the last row that was stored first. -/
def mapK : List Row → DataW Unit
  | [] => .map []
  | r :: t => (mapK t).put (keyK r) (kD (kd r))
theorem isMap_mapK : ∀ t, Maps.IsMap (mapK t)
  | [] => Maps.isMap_empty
  | r :: t => (isMap_mapK t).put _ _
theorem at_mapK (k : List UInt8) : ∀ t, (mapK t).atKey (.string k) (kD 0) = kD (kindIn t k)
  | [] => rfl
  | r :: t => by
    unfold kindIn Rule.look
    rw [List.find?_cons]
    by_cases h : nm r = k
    · have hb : (nm r == k) = true := by simpa using h
      rw [hb]
      show ((mapK t).put (keyK r) (kD (kd r))).atKey (.string k) (kD 0) = kD (kd r)
      rw [← h]
      exact Maps.atKey_put_same (k := keyK r) (isMap_mapK t) (by simp [keyK, WideAt.IsKeyLit]) _ _
    · have hb : (nm r == k) = false := by simpa using h
      rw [hb]
      show ((mapK t).put (keyK r) (kD (kd r))).atKey (.string k) (kD 0) = _
      rw [Maps.atKey_put_other (fun e => h (by unfold keyK at e; injection e with e; exact e.symm))]
      exact at_mapK k t
/-- Block b is a map of these rows. -/
def IsK (w : World) (b : Nat) (t : List Row) : Prop := w.ownsMap Tryd.prog 9 kR b t.length (mapK t)
theorem IsK.below {w w' : World} {b : Nat} {t : List Row} (h : IsK w b t) (hb : Below w.heap.size w w') : IsK w' b t :=
  h.kept (row := none) ⟨hb.os, hb.tape, hb.output, hb.size, fun k hk _ => hb.block k hk⟩ (by simp)
/-- A map in work: block b, made since w0. -/
def KIn (w0 w : World) (t : List Row) : Prop := IsK w w0.heap.size t ∧ Below w0.heap.size w0 w
theorem kIn_made (w : World) : KIn w (w.alloc (.map #[] 0)) [] := ⟨World.ownsMap_made _ _ _ _, (Below.refl _ _).alloc (Nat.le_refl _) _⟩
theorem keyed_str : Keyed Tryd.prog 9 := Maps.string_keyed Tryd.underlying9
theorem zeroK (w : World) : (zeroValue 45).run Tryd.prog w = .ok (.int .u8 0) w := by kernel_rfl

/-- A row of the literal is stored. -/
theorem wpList_kin {w : World} {ops : Array Oper} {rest : List Oper} {o : Oper} {a : Act} {Q : Exit → Act → World → Prop} (hg : o.guard = none) (m v : Operand) (l : List UInt8)
    (hop : o.op = .insert 42 m (.const (.string ⟨l.toArray⟩)) v) (w0 : World) (t : List Row) (h : KIn w0 w t) (hm : a.eval m = .map (some w0.heap.size)) (x : Int) (hv : a.eval v = .int .u8 x)
    (hx : 0 ≤ x) (hl : t.length < 1000) (hr : l.length ≤ 1000) (hd : o.dst = none)
    (k : ∀ w', KIn w0 w' ((l, x.toNat) :: t) → wpList Tryd.prog ops Q rest a w') : wpList Tryd.prog ops Q (o :: rest) a w := by
  refine wpList_plain hg fun K hK => ?_
  have hv2 : kR (.int .u8 x) = some (kD (kd (l, x.toNat)), []) := by
    show some (DataW.lit (.int .u8 x), []) = some (DataW.lit (.int .u8 ((x.toNat : Nat) : Int)), [])
    rw [Int.toNat_of_nonneg hx]
  obtain ⟨w', hrun, h1, h2⟩ := h.1.update keyed_str Tryd.underlying42 (by unfold maxLen; omega) (key := .string ⟨l.toArray⟩) (kl := keyK (l, x.toNat)) (Go.WideMaps.keyOf_string_mk Tryd.underlying9 (by rw [size_eq]; unfold maxLen; show l.length ≤ _; omega)) hv2
  unfold Oper.wp
  have hc : a.eval (.const (.string ⟨l.toArray⟩)) = .string ⟨l.toArray⟩ := rfl
  simp only [execOp, hop, hm, hv, hc]
  rw [show ((do (Instr.mapUpdate 42 (.map (some w0.heap.size)) (.string ⟨l.toArray⟩) (.int .u8 x)); pure Next.skip : Sem Next).run Tryd.prog w) = .ok .skip w' by simp [hrun, Result.andThen]]
  refine hK _ _ ?_
  rw [hd]
  exact k w' ⟨h1, h.2.grown h2 h.2.size (fun k hk => by cases hk; exact Nat.le_refl _)⟩
/-- What a look-up tells. -/
theorem run_lookK {w : World} {b : Nat} {t : List Row} (h : IsK w b t) (s : ByteArray) (hs : s.size ≤ 1000000) :
    (Instr.lookup 42 (.map (some b)) (.string s) false).run Tryd.prog w = .ok (.int .u8 (kindIn t s.data.toList : Nat)) w := by
  obtain ⟨v, ps, hrun, hv⟩ := World.ownsMap.lookup h keyed_str Tryd.underlying42 (zeroK w) (zd := kD 0) (zp := []) rfl (key := .string s) (kl := .string s.data.toList) (Go.WideMaps.keyOf_string_mk Tryd.underlying9 (by unfold maxLen; omega))
  rw [at_mapK] at hv
  rw [hrun, kR_inv hv]
set_option maxHeartbeats 4000000 in
theorem elements_1 (w : World) :
    Calls Tryd.prog 40 #[.int .i64 1] w fun e w' => e = .returned (.map (some w.heap.size)) ∧ KIn w w' part1 := by
  have hmm := @run_makeMap Tryd.prog
  have hT := kIn_made w
  go_enter Tryd.func40, Tryd.ntmps40
  go_wp2_with (refine wpList_kin rfl _ _ _ rfl w _ hT rfl _ rfl (by decide) (by decide) (by decide) rfl ?_; clear hT; intro w1 hT)
  go_ret
  exact ⟨rfl, hT⟩
set_option maxHeartbeats 4000000 in
theorem elements_2 (w : World) :
    Calls Tryd.prog 40 #[.int .i64 2] w fun e w' => e = .returned (.map (some w.heap.size)) ∧ KIn w w' part2 := by
  have hmm := @run_makeMap Tryd.prog
  have hT := kIn_made w
  go_enter Tryd.func40, Tryd.ntmps40
  go_wp2_with (refine wpList_kin rfl _ _ _ rfl w _ hT rfl _ rfl (by decide) (by decide) (by decide) rfl ?_; clear hT; intro w1 hT)
  go_ret
  exact ⟨rfl, hT⟩
set_option maxHeartbeats 4000000 in
theorem elements_3 (w : World) :
    Calls Tryd.prog 40 #[.int .i64 3] w fun e w' => e = .returned (.map (some w.heap.size)) ∧ KIn w w' part3 := by
  have hmm := @run_makeMap Tryd.prog
  have hT := kIn_made w
  go_enter Tryd.func40, Tryd.ntmps40
  go_wp2_with (refine wpList_kin rfl _ _ _ rfl w _ hT rfl _ rfl (by decide) (by decide) (by decide) rfl ?_; clear hT; intro w1 hT)
  go_ret
  exact ⟨rfl, hT⟩
set_option maxHeartbeats 4000000 in
theorem elements_4 (n : Nat) (w : World) (h1 : ((n : Int) == 1) = false) (h2 : ((n : Int) == 2) = false) (h3 : ((n : Int) == 3) = false) :
    Calls Tryd.prog 40 #[.int .i64 n] w fun e w' => e = .returned (.map (some w.heap.size)) ∧ KIn w w' part4 := by
  have hmm := @run_makeMap Tryd.prog
  have hT := kIn_made w
  go_enter Tryd.func40, Tryd.ntmps40
  go_wp2_with (refine wpList_kin rfl _ _ _ rfl w _ hT rfl _ rfl (by decide) (by decide) (by decide) rfl ?_; clear hT; intro w1 hT)
  go_ret
  exact ⟨rfl, hT⟩
theorem elements_any (n : Nat) (w : World) :
    Calls Tryd.prog 40 #[.int .i64 n] w fun e w' => e = .returned (.map (some w.heap.size)) ∧ KIn w w' (partOf n) := by
  unfold partOf
  by_cases h1 : n = 1
  · subst h1; rw [if_pos rfl]; exact elements_1 w
  rw [if_neg h1]
  by_cases h2 : n = 2
  · subst h2; rw [if_pos rfl]; exact elements_2 w
  rw [if_neg h2]
  by_cases h3 : n = 3
  · subst h3; rw [if_pos rfl]; exact elements_3 w
  rw [if_neg h3]
  exact elements_4 n w (by simp; omega) (by simp; omega) (by simp; omega)
set_option maxHeartbeats 4000000 in
theorem attributes_any (w : World) :
    Calls Tryd.prog 17 #[] w fun e w' => e = .returned (.map (some w.heap.size)) ∧ KIn w w' attrT := by
  have hmm := @run_makeMap Tryd.prog
  have hT := kIn_made w
  go_enter Tryd.func17, Tryd.ntmps17
  go_wp2_with (refine wpList_kin rfl _ _ _ rfl w _ hT rfl _ rfl (by decide) (by decide) (by decide) rfl ?_; clear hT; intro w1 hT)
  go_ret
  exact ⟨rfl, hT⟩
theorem kindOf_any (s : ByteArray) (w : World) (hs : s.size ≤ 1000000) :
    Calls Tryd.prog 34 #[.string s] w fun e w' => e = .returned (.int .u8 (kindOf s.data.toList : Nat)) ∧ Below w.heap.size w w' := by
  have HE := hid (elements_any s.size)
  have HR := hid (fun (W : World) (h : IsK W w.heap.size (partOf s.size)) => run_lookK h s hs)
  have HK := hid (show kindIn (partOf s.size) s.data.toList = kindOf s.data.toList by unfold kindOf; rw [size_list])
  go_enter Tryd.func34, Tryd.ntmps34
  go_wp2_with fail
  refine (HE.out _).mono ?_
  rintro e w1 ⟨rfl, hk, b1⟩
  have hl := HR.out _ hk
  rw [HK.out] at hl
  clear hk
  go_wp2
  go_ret
  exact ⟨rfl, b1⟩
theorem known_one (s : ByteArray) (w : World) (hs : s.size ≤ 1000000) :
    Calls Tryd.prog 21 #[.string s] w fun e w' => e = .returned (.bool (knownB s.data.toList)) ∧ Below w.heap.size w w' := by
  have HE := hid (kindOf_any s)
  have hlt := kindOf_lt s.data.toList
  rw [knownB_eq]
  obtain ⟨k, hk⟩ : ∃ k, kindOf s.data.toList = k := ⟨_, rfl⟩
  rw [hk] at HE hlt ⊢
  clear hk
  go_enter Tryd.func21, Tryd.ntmps21
  go_wp2_with fail
  refine (HE.out _ hs).mono ?_
  rintro e w1 ⟨rfl, b1⟩
  go_wp2
  go_ret
  refine ⟨ret_bool' ?_, b1⟩
  rw [Bool.eq_iff_iff]
  simp
end Go.Proofs.YtpheaepifjcmiaaDoor
