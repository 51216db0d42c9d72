/- Walks over the reference of layer 11: what bounds the scopes of lists and of buttons (names are appended to others); what bounds any scope. Written by tools/gen_openbe.py. -/
import Derived.Test.YtolbohmalgklmaaOpenBd
namespace Go.Proofs.Ytolbohmalgklmaa
open Go.RowKit Go.Lib
set_option maxRecDepth 100000
set_option linter.unusedVariables false
/-- Texts laid by a literal are a row of the call's own. -/
theorem own_lit {w : World} {base : Nat} (ls : List (List UInt8)) (cur : Array Value) {n : Nat} (hn : ls.length = n) (hc : cur.toList = strsL ls) (hb : base ≤ w.heap.size) (hm : n ≤ maxLen) :
    (w.alloc (.cells cur 9)).ownsRow base 9 1 (.slice (some ⟨w.heap.size, 0, none⟩) n n) ls.length (strsL ls) := by
  subst hn
  refine ⟨by rw [strsL_len, Nat.mul_one], .inr ⟨w.heap.size, ls.length, cur, rfl, hb, heap_alloc_new w _, Nat.le_refl _, hm, ?_, ?_⟩⟩
  · rw [← Array.length_toList, hc, strsL_len, Nat.mul_one]
  · rw [hc, Nat.mul_one]; exact List.take_of_length_le (by rw [strsL_len]; exact Nat.le_refl _)
/-- 'append(own, x, y)', own the call's own row of texts, x and y just laid in a block of their own. -/
theorem append_strs {w : World} {ops : Array Oper} {rest : List Oper} {o : Oper} {a : Act} {Q : Exit → Act → World → Prop} (hgd : o.guard = none) (s x : Operand)
    (ho : o.op = .call { callee := .builtin .append, args := #[s, x], argTypes := #[23, 23] })
    (base : Nat) (v : Value) (acc : List (List UInt8)) (hs : a.eval s = v) (hown : w.ownsRow base 9 1 v acc.length (strsL acc))
    (b off m c : Nat) (new : List (List UInt8)) (hx : a.eval x = .slice (some ⟨b, off, none⟩) m c) (hS : IsS w (some ⟨b, off, none⟩) m new)
    (hlen : acc.length + m ≤ 8589934592) (hbase : base ≤ w.heap.size)
    (h : ∀ v' w', w'.ownsRow base 9 1 v' (acc ++ new).length (strsL (acc ++ new)) → w.grownBy w' v.ownBlock → wpList Try.prog ops Q rest (a.put o.dst v') w') : wpList Try.prog ops Q (o :: rest) a w := by
  obtain ⟨i0, hi, hz0, hz1, hz2⟩ := info_parts info_str
  refine wpList_append_own w hgd s x 23 ho base 9 i0 (.string ⟨#[]⟩) 1 16 Try.underlying23 hi hz0 hz1 hz2 rfl (by decide) v acc.length (strsL acc) hs hown ⟨b, off, none⟩ m c (strsL new) hx (by rw [strsL_len, hS.1]; omega) ?_ ?_ (by unfold maxLen; omega) (by omega) hbase ?_
  · intro j u hj
    rw [addr_add]
    rw [strsL_get, Option.map_eq_some_iff] at hj
    obtain ⟨l, hl, rfl⟩ := hj
    obtain ⟨hll, h0 | ⟨b', off', e, hat⟩⟩ := hS
    · have := (List.getElem?_eq_some_iff.1 hl).1
      omega
    · cases e
      exact hat j l hl
  · intro u hu
    simp [strsL] at hu
    obtain ⟨l, _, rfl⟩ := hu
    rfl
  · intro v' w' h1 h2 _
    refine h v' w' ?_ h2
    rw [List.length_append, strsL_append, hS.1]
    exact h1
set_option maxHeartbeats 16000000 in
theorem rbound_list (i : Int) (pt : Nat) (nm : List UInt8) (w : World) :
    Calls Try.prog 30 #[.agg #[.int .i64 i, .int .u8 0, .string (bs nm), .int .u8 pt], .int .u8 1] w fun e w' => e = .returned (.bool (Opn.listN.contains nm)) ∧ Below w.heap.size w w' := by
  have HI := hid fun (a : Option Addr) (cap : Nat) W (h : IsS W a 11 Opn.listN) (h1 : 11 ≤ cap) (h2 : cap ≤ maxLen) => oin_any a 11 cap Opn.listN nm W h (by omega) h1 (by unfold maxLen at h2; omega)
  generalize Opn.listN.contains nm = c at *
  generalize bs nm = X at *
  have s0 : (w.alloc (.cells #[.int .i64 i, .int .u8 0, .string X, .int .u8 pt] 37)).heap.size = w.heap.size + 1 := by simp
  have s1 : ((w.alloc (.cells #[.int .i64 i, .int .u8 0, .string X, .int .u8 pt] 37)).alloc (.cells #[.string ⟨#[97, 112, 112, 108, 101, 116]⟩, .string ⟨#[99, 97, 112, 116, 105, 111, 110]⟩, .string ⟨#[104, 116, 109, 108]⟩, .string ⟨#[109, 97, 114, 113, 117, 101, 101]⟩, .string ⟨#[111, 98, 106, 101, 99, 116]⟩, .string ⟨#[116, 97, 98, 108, 101]⟩, .string ⟨#[116, 100]⟩, .string ⟨#[116, 101, 109, 112, 108, 97, 116, 101]⟩, .string ⟨#[116, 104]⟩] 9)).heap.size = w.heap.size + 2 := by simp
  have s2 : (((w.alloc (.cells #[.int .i64 i, .int .u8 0, .string X, .int .u8 pt] 37)).alloc (.cells #[.string ⟨#[97, 112, 112, 108, 101, 116]⟩, .string ⟨#[99, 97, 112, 116, 105, 111, 110]⟩, .string ⟨#[104, 116, 109, 108]⟩, .string ⟨#[109, 97, 114, 113, 117, 101, 101]⟩, .string ⟨#[111, 98, 106, 101, 99, 116]⟩, .string ⟨#[116, 97, 98, 108, 101]⟩, .string ⟨#[116, 100]⟩, .string ⟨#[116, 101, 109, 112, 108, 97, 116, 101]⟩, .string ⟨#[116, 104]⟩] 9)).alloc (.cells #[.string ⟨#[111, 108]⟩, .string ⟨#[117, 108]⟩] 9)).heap.size = w.heap.size + 3 := by simp
  have B0 : Below w.heap.size w (w.alloc (.cells #[.int .i64 i, .int .u8 0, .string X, .int .u8 pt] 37)) := (Below.refl _ w).alloc (Nat.le_refl _) _
  have B1 : Below w.heap.size w ((w.alloc (.cells #[.int .i64 i, .int .u8 0, .string X, .int .u8 pt] 37)).alloc (.cells #[.string ⟨#[97, 112, 112, 108, 101, 116]⟩, .string ⟨#[99, 97, 112, 116, 105, 111, 110]⟩, .string ⟨#[104, 116, 109, 108]⟩, .string ⟨#[109, 97, 114, 113, 117, 101, 101]⟩, .string ⟨#[111, 98, 106, 101, 99, 116]⟩, .string ⟨#[116, 97, 98, 108, 101]⟩, .string ⟨#[116, 100]⟩, .string ⟨#[116, 101, 109, 112, 108, 97, 116, 101]⟩, .string ⟨#[116, 104]⟩] 9)) := B0.alloc B0.size _
  have HB2 : Hid (Below w.heap.size w (((w.alloc (.cells #[.int .i64 i, .int .u8 0, .string X, .int .u8 pt] 37)).alloc (.cells #[.string ⟨#[97, 112, 112, 108, 101, 116]⟩, .string ⟨#[99, 97, 112, 116, 105, 111, 110]⟩, .string ⟨#[104, 116, 109, 108]⟩, .string ⟨#[109, 97, 114, 113, 117, 101, 101]⟩, .string ⟨#[111, 98, 106, 101, 99, 116]⟩, .string ⟨#[116, 97, 98, 108, 101]⟩, .string ⟨#[116, 100]⟩, .string ⟨#[116, 101, 109, 112, 108, 97, 116, 101]⟩, .string ⟨#[116, 104]⟩] 9)).alloc (.cells #[.string ⟨#[111, 108]⟩, .string ⟨#[117, 108]⟩] 9))) := hid (B1.alloc B1.size _)
  have O1 := own_lit (w := w.alloc (.cells #[.int .i64 i, .int .u8 0, .string X, .int .u8 pt] 37)) (base := w.heap.size + 1) Opn.allN #[.string ⟨#[97, 112, 112, 108, 101, 116]⟩, .string ⟨#[99, 97, 112, 116, 105, 111, 110]⟩, .string ⟨#[104, 116, 109, 108]⟩, .string ⟨#[109, 97, 114, 113, 117, 101, 101]⟩, .string ⟨#[111, 98, 106, 101, 99, 116]⟩, .string ⟨#[116, 97, 98, 108, 101]⟩, .string ⟨#[116, 100]⟩, .string ⟨#[116, 101, 109, 112, 108, 97, 116, 101]⟩, .string ⟨#[116, 104]⟩] (n := 9) rfl rfl (by rw [s0]; exact Nat.le_refl _) (by unfold maxLen; omega)
  rw [s0] at O1
  have HO2 := hid (O1.alloc (.cells #[.string ⟨#[111, 108]⟩, .string ⟨#[117, 108]⟩] 9))
  have HN := isS_of_block (ls := [[111, 108], [117, 108]]) (n := 2) rfl (heap_alloc_new ((w.alloc (.cells #[.int .i64 i, .int .u8 0, .string X, .int .u8 pt] 37)).alloc (.cells #[.string ⟨#[97, 112, 112, 108, 101, 116]⟩, .string ⟨#[99, 97, 112, 116, 105, 111, 110]⟩, .string ⟨#[104, 116, 109, 108]⟩, .string ⟨#[109, 97, 114, 113, 117, 101, 101]⟩, .string ⟨#[111, 98, 106, 101, 99, 116]⟩, .string ⟨#[116, 97, 98, 108, 101]⟩, .string ⟨#[116, 100]⟩, .string ⟨#[116, 101, 109, 112, 108, 97, 116, 101]⟩, .string ⟨#[116, 104]⟩] 9)) (.cells #[.string ⟨#[111, 108]⟩, .string ⟨#[117, 108]⟩] 9)) rfl
  rw [s1] at HN
  have HN := hid HN
  have c2 : (w.alloc (.cells #[.int .i64 i, .int .u8 0, .string X, .int .u8 pt] 37)).cell? ⟨w.heap.size, 2, none⟩ = some (.string X) := by
    rw [(BlkW.new w _ _).cell 2]; rfl
  have c2' := hid ((World.cell?_of_block (a := ⟨w.heap.size, 2, none⟩) (((heap_alloc_old ((w.alloc (.cells #[.int .i64 i, .int .u8 0, .string X, .int .u8 pt] 37)).alloc (.cells #[.string ⟨#[97, 112, 112, 108, 101, 116]⟩, .string ⟨#[99, 97, 112, 116, 105, 111, 110]⟩, .string ⟨#[104, 116, 109, 108]⟩, .string ⟨#[109, 97, 114, 113, 117, 101, 101]⟩, .string ⟨#[111, 98, 106, 101, 99, 116]⟩, .string ⟨#[116, 97, 98, 108, 101]⟩, .string ⟨#[116, 100]⟩, .string ⟨#[116, 101, 109, 112, 108, 97, 116, 101]⟩, .string ⟨#[116, 104]⟩] 9)) (.cells #[.string ⟨#[111, 108]⟩, .string ⟨#[117, 108]⟩] 9) (show w.heap.size < ((w.alloc (.cells #[.int .i64 i, .int .u8 0, .string X, .int .u8 pt] 37)).alloc (.cells #[.string ⟨#[97, 112, 112, 108, 101, 116]⟩, .string ⟨#[99, 97, 112, 116, 105, 111, 110]⟩, .string ⟨#[104, 116, 109, 108]⟩, .string ⟨#[109, 97, 114, 113, 117, 101, 101]⟩, .string ⟨#[111, 98, 106, 101, 99, 116]⟩, .string ⟨#[116, 97, 98, 108, 101]⟩, .string ⟨#[116, 100]⟩, .string ⟨#[116, 101, 109, 112, 108, 97, 116, 101]⟩, .string ⟨#[116, 104]⟩] 9)).heap.size by rw [s1]; omega))).trans (heap_alloc_old (w.alloc (.cells #[.int .i64 i, .int .u8 0, .string X, .int .u8 pt] 37)) (.cells #[.string ⟨#[97, 112, 112, 108, 101, 116]⟩, .string ⟨#[99, 97, 112, 116, 105, 111, 110]⟩, .string ⟨#[104, 116, 109, 108]⟩, .string ⟨#[109, 97, 114, 113, 117, 101, 101]⟩, .string ⟨#[111, 98, 106, 101, 99, 116]⟩, .string ⟨#[116, 97, 98, 108, 101]⟩, .string ⟨#[116, 100]⟩, .string ⟨#[116, 101, 109, 112, 108, 97, 116, 101]⟩, .string ⟨#[116, 104]⟩] 9) (show w.heap.size < (w.alloc (.cells #[.int .i64 i, .int .u8 0, .string X, .int .u8 pt] 37)).heap.size by rw [s0]; omega)))).trans c2)
  clear O1 c2 B0 B1
  go_enter Try.func30, Try.ntmps30
  go_wp2_with (at_builtin; refine append_strs rfl _ _ rfl (w.heap.size + 1) _ Opn.allN rfl HO2.out (w.heap.size + 2) 0 2 2 [[111, 108], [117, 108]] rfl HN.out (by show 9 + 2 ≤ 8589934592; omega) (by rw [s2]; omega) ?_)
  intro v' w' o1 g1
  have q2 := g1.cell c2'.out (by simp [Value.ownBlock])
  have BB := hid (HB2.out.grown g1 (by rw [s2]; omega) (fun k hk => by simp [Value.ownBlock] at hk; omega))
  obtain ⟨a, cap, rfl, hS, hc1, hc2⟩ := own_isS o1
  have HS := hid hS
  clear o1 g1 hS HO2 HN
  have hc1 : 11 ≤ cap := hc1
  have el : (Opn.allN ++ [[111, 108], [117, 108]]).length = 11 := rfl
  rw [el] at HS ⊢
  go_wp2_with fail
  refine (HI.out a cap _ HS.out hc1 hc2).mono ?_
  rintro e w2 ⟨rfl, rfl⟩
  go_wp2
  go_ret
  exact ⟨rfl, BB.out⟩
set_option maxHeartbeats 16000000 in
theorem rbound_but (i : Int) (pt : Nat) (nm : List UInt8) (w : World) :
    Calls Try.prog 30 #[.agg #[.int .i64 i, .int .u8 0, .string (bs nm), .int .u8 pt], .int .u8 2] w fun e w' => e = .returned (.bool (Opn.butN.contains nm)) ∧ Below w.heap.size w w' := by
  have HI := hid fun (a : Option Addr) (cap : Nat) W (h : IsS W a 10 Opn.butN) (h1 : 10 ≤ cap) (h2 : cap ≤ maxLen) => oin_any a 10 cap Opn.butN nm W h (by omega) h1 (by unfold maxLen at h2; omega)
  generalize Opn.butN.contains nm = c at *
  generalize bs nm = X at *
  have s0 : (w.alloc (.cells #[.int .i64 i, .int .u8 0, .string X, .int .u8 pt] 37)).heap.size = w.heap.size + 1 := by simp
  have s1 : ((w.alloc (.cells #[.int .i64 i, .int .u8 0, .string X, .int .u8 pt] 37)).alloc (.cells #[.string ⟨#[97, 112, 112, 108, 101, 116]⟩, .string ⟨#[99, 97, 112, 116, 105, 111, 110]⟩, .string ⟨#[104, 116, 109, 108]⟩, .string ⟨#[109, 97, 114, 113, 117, 101, 101]⟩, .string ⟨#[111, 98, 106, 101, 99, 116]⟩, .string ⟨#[116, 97, 98, 108, 101]⟩, .string ⟨#[116, 100]⟩, .string ⟨#[116, 101, 109, 112, 108, 97, 116, 101]⟩, .string ⟨#[116, 104]⟩] 9)).heap.size = w.heap.size + 2 := by simp
  have s2 : (((w.alloc (.cells #[.int .i64 i, .int .u8 0, .string X, .int .u8 pt] 37)).alloc (.cells #[.string ⟨#[97, 112, 112, 108, 101, 116]⟩, .string ⟨#[99, 97, 112, 116, 105, 111, 110]⟩, .string ⟨#[104, 116, 109, 108]⟩, .string ⟨#[109, 97, 114, 113, 117, 101, 101]⟩, .string ⟨#[111, 98, 106, 101, 99, 116]⟩, .string ⟨#[116, 97, 98, 108, 101]⟩, .string ⟨#[116, 100]⟩, .string ⟨#[116, 101, 109, 112, 108, 97, 116, 101]⟩, .string ⟨#[116, 104]⟩] 9)).alloc (.cells #[.string ⟨#[98, 117, 116, 116, 111, 110]⟩] 9)).heap.size = w.heap.size + 3 := by simp
  have B0 : Below w.heap.size w (w.alloc (.cells #[.int .i64 i, .int .u8 0, .string X, .int .u8 pt] 37)) := (Below.refl _ w).alloc (Nat.le_refl _) _
  have B1 : Below w.heap.size w ((w.alloc (.cells #[.int .i64 i, .int .u8 0, .string X, .int .u8 pt] 37)).alloc (.cells #[.string ⟨#[97, 112, 112, 108, 101, 116]⟩, .string ⟨#[99, 97, 112, 116, 105, 111, 110]⟩, .string ⟨#[104, 116, 109, 108]⟩, .string ⟨#[109, 97, 114, 113, 117, 101, 101]⟩, .string ⟨#[111, 98, 106, 101, 99, 116]⟩, .string ⟨#[116, 97, 98, 108, 101]⟩, .string ⟨#[116, 100]⟩, .string ⟨#[116, 101, 109, 112, 108, 97, 116, 101]⟩, .string ⟨#[116, 104]⟩] 9)) := B0.alloc B0.size _
  have HB2 : Hid (Below w.heap.size w (((w.alloc (.cells #[.int .i64 i, .int .u8 0, .string X, .int .u8 pt] 37)).alloc (.cells #[.string ⟨#[97, 112, 112, 108, 101, 116]⟩, .string ⟨#[99, 97, 112, 116, 105, 111, 110]⟩, .string ⟨#[104, 116, 109, 108]⟩, .string ⟨#[109, 97, 114, 113, 117, 101, 101]⟩, .string ⟨#[111, 98, 106, 101, 99, 116]⟩, .string ⟨#[116, 97, 98, 108, 101]⟩, .string ⟨#[116, 100]⟩, .string ⟨#[116, 101, 109, 112, 108, 97, 116, 101]⟩, .string ⟨#[116, 104]⟩] 9)).alloc (.cells #[.string ⟨#[98, 117, 116, 116, 111, 110]⟩] 9))) := hid (B1.alloc B1.size _)
  have O1 := own_lit (w := w.alloc (.cells #[.int .i64 i, .int .u8 0, .string X, .int .u8 pt] 37)) (base := w.heap.size + 1) Opn.allN #[.string ⟨#[97, 112, 112, 108, 101, 116]⟩, .string ⟨#[99, 97, 112, 116, 105, 111, 110]⟩, .string ⟨#[104, 116, 109, 108]⟩, .string ⟨#[109, 97, 114, 113, 117, 101, 101]⟩, .string ⟨#[111, 98, 106, 101, 99, 116]⟩, .string ⟨#[116, 97, 98, 108, 101]⟩, .string ⟨#[116, 100]⟩, .string ⟨#[116, 101, 109, 112, 108, 97, 116, 101]⟩, .string ⟨#[116, 104]⟩] (n := 9) rfl rfl (by rw [s0]; exact Nat.le_refl _) (by unfold maxLen; omega)
  rw [s0] at O1
  have HO2 := hid (O1.alloc (.cells #[.string ⟨#[98, 117, 116, 116, 111, 110]⟩] 9))
  have HN := isS_of_block (ls := [[98, 117, 116, 116, 111, 110]]) (n := 1) rfl (heap_alloc_new ((w.alloc (.cells #[.int .i64 i, .int .u8 0, .string X, .int .u8 pt] 37)).alloc (.cells #[.string ⟨#[97, 112, 112, 108, 101, 116]⟩, .string ⟨#[99, 97, 112, 116, 105, 111, 110]⟩, .string ⟨#[104, 116, 109, 108]⟩, .string ⟨#[109, 97, 114, 113, 117, 101, 101]⟩, .string ⟨#[111, 98, 106, 101, 99, 116]⟩, .string ⟨#[116, 97, 98, 108, 101]⟩, .string ⟨#[116, 100]⟩, .string ⟨#[116, 101, 109, 112, 108, 97, 116, 101]⟩, .string ⟨#[116, 104]⟩] 9)) (.cells #[.string ⟨#[98, 117, 116, 116, 111, 110]⟩] 9)) rfl
  rw [s1] at HN
  have HN := hid HN
  have c2 : (w.alloc (.cells #[.int .i64 i, .int .u8 0, .string X, .int .u8 pt] 37)).cell? ⟨w.heap.size, 2, none⟩ = some (.string X) := by
    rw [(BlkW.new w _ _).cell 2]; rfl
  have c2' := hid ((World.cell?_of_block (a := ⟨w.heap.size, 2, none⟩) (((heap_alloc_old ((w.alloc (.cells #[.int .i64 i, .int .u8 0, .string X, .int .u8 pt] 37)).alloc (.cells #[.string ⟨#[97, 112, 112, 108, 101, 116]⟩, .string ⟨#[99, 97, 112, 116, 105, 111, 110]⟩, .string ⟨#[104, 116, 109, 108]⟩, .string ⟨#[109, 97, 114, 113, 117, 101, 101]⟩, .string ⟨#[111, 98, 106, 101, 99, 116]⟩, .string ⟨#[116, 97, 98, 108, 101]⟩, .string ⟨#[116, 100]⟩, .string ⟨#[116, 101, 109, 112, 108, 97, 116, 101]⟩, .string ⟨#[116, 104]⟩] 9)) (.cells #[.string ⟨#[98, 117, 116, 116, 111, 110]⟩] 9) (show w.heap.size < ((w.alloc (.cells #[.int .i64 i, .int .u8 0, .string X, .int .u8 pt] 37)).alloc (.cells #[.string ⟨#[97, 112, 112, 108, 101, 116]⟩, .string ⟨#[99, 97, 112, 116, 105, 111, 110]⟩, .string ⟨#[104, 116, 109, 108]⟩, .string ⟨#[109, 97, 114, 113, 117, 101, 101]⟩, .string ⟨#[111, 98, 106, 101, 99, 116]⟩, .string ⟨#[116, 97, 98, 108, 101]⟩, .string ⟨#[116, 100]⟩, .string ⟨#[116, 101, 109, 112, 108, 97, 116, 101]⟩, .string ⟨#[116, 104]⟩] 9)).heap.size by rw [s1]; omega))).trans (heap_alloc_old (w.alloc (.cells #[.int .i64 i, .int .u8 0, .string X, .int .u8 pt] 37)) (.cells #[.string ⟨#[97, 112, 112, 108, 101, 116]⟩, .string ⟨#[99, 97, 112, 116, 105, 111, 110]⟩, .string ⟨#[104, 116, 109, 108]⟩, .string ⟨#[109, 97, 114, 113, 117, 101, 101]⟩, .string ⟨#[111, 98, 106, 101, 99, 116]⟩, .string ⟨#[116, 97, 98, 108, 101]⟩, .string ⟨#[116, 100]⟩, .string ⟨#[116, 101, 109, 112, 108, 97, 116, 101]⟩, .string ⟨#[116, 104]⟩] 9) (show w.heap.size < (w.alloc (.cells #[.int .i64 i, .int .u8 0, .string X, .int .u8 pt] 37)).heap.size by rw [s0]; omega)))).trans c2)
  clear O1 c2 B0 B1
  go_enter Try.func30, Try.ntmps30
  go_wp2_with (at_builtin; refine append_strs rfl _ _ rfl (w.heap.size + 1) _ Opn.allN rfl HO2.out (w.heap.size + 2) 0 1 1 [[98, 117, 116, 116, 111, 110]] rfl HN.out (by show 9 + 1 ≤ 8589934592; omega) (by rw [s2]; omega) ?_)
  intro v' w' o1 g1
  have q2 := g1.cell c2'.out (by simp [Value.ownBlock])
  have BB := hid (HB2.out.grown g1 (by rw [s2]; omega) (fun k hk => by simp [Value.ownBlock] at hk; omega))
  obtain ⟨a, cap, rfl, hS, hc1, hc2⟩ := own_isS o1
  have HS := hid hS
  clear o1 g1 hS HO2 HN
  have hc1 : 10 ≤ cap := hc1
  have el : (Opn.allN ++ [[98, 117, 116, 116, 111, 110]]).length = 10 := rfl
  rw [el] at HS ⊢
  go_wp2_with fail
  refine (HI.out a cap _ HS.out hc1 hc2).mono ?_
  rintro e w2 ⟨rfl, rfl⟩
  go_wp2
  go_ret
  exact ⟨rfl, BB.out⟩
set_option maxHeartbeats 16000000 in
theorem rbound_far (i : Int) (sp pt sc : Nat) (nm : List UInt8) (w : World) (hsp : sp < 256) (hsc : sc < 256) (hS : sc ≠ 3) (h0 : sp ≠ 0) :
    Calls Try.prog 30 #[.agg #[.int .i64 i, .int .u8 sp, .string (bs nm), .int .u8 pt], .int .u8 sc] w fun e w' => e = .returned (.bool (Opn.specialB sp nm)) ∧ Below w.heap.size w w' := by
  have al := hid ((Below.refl w.heap.size w).alloc (Nat.le_refl _) (.cells #[.int .i64 i, .int .u8 sp, .string (bs nm), .int .u8 pt] 37))
  have HS := hid fun W => rspec_any sp nm W hsp
  have d3 : decide (sc = 3) = false := decide_eq_false hS
  have d0 : decide (sp = 0) = false := decide_eq_false h0
  generalize Opn.specialB sp nm = c at *
  generalize bs nm = X at *
  go_enter Try.func30, Try.ntmps30
  go_wp2_with fail
  refine (HS.out _).mono ?_
  rintro e w2 ⟨rfl, b2⟩
  have B2 := hid (al.out.trans (b2.mono al.out.size))
  go_wp2
  go_ret
  exact ⟨rfl, B2.out⟩
/-- What bounds a scope. -/
theorem rbound_any (x : Opn.E) (sc : Nat) (w : World) (hsp : x.space < 256) (hsc : sc < 256) :
    Calls Try.prog 30 #[.agg #[.int .i64 x.id, .int .u8 x.space, .string (bs x.name), .int .u8 x.point], .int .u8 sc] w fun e w' => e = .returned (.bool (Opn.boundB x sc)) ∧ Below w.heap.size w w' := by
  obtain ⟨i, sp, nm, pt⟩ := x
  by_cases hS : sc ≠ 1 ∧ sc ≠ 2
  · exact rbound_plain i sp pt sc nm w hsp hsc hS
  · have h3 : sc ≠ 3 := by omega
    by_cases h0 : sp = 0
    · subst h0
      by_cases h1 : sc = 1
      · subst h1
        have : Opn.boundB ⟨i, 0, nm, pt⟩ 1 = Opn.listN.contains nm := rfl
        rw [this]
        exact rbound_list i pt nm w
      · obtain rfl : sc = 2 := by omega
        have : Opn.boundB ⟨i, 0, nm, pt⟩ 2 = Opn.butN.contains nm := rfl
        rw [this]
        exact rbound_but i pt nm w
    · have : Opn.boundB ⟨i, sp, nm, pt⟩ sc = Opn.specialB sp nm := by unfold Opn.boundB; rw [if_neg h3, if_pos h0]
      rw [this]
      exact rbound_far i sp pt sc nm w hsp hsc h3 h0
end Go.Proofs.Ytolbohmalgklmaa
