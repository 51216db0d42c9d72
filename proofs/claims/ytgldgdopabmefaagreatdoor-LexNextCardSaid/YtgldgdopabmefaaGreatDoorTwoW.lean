/- Walks: package note: whether something begins, and Read, at any place. Two tokens in memory, the result and one in work; what note's Read tells where something begins. -/
import Derived.Test.YtgldgdopabmefaaGreatDoorNoteFirst
import Derived.Test.YtgldgdopabmefaaGreatDoorChar
import Derived.Test.YtgldgdopabmefaaGreatDoorTagV
namespace Go.Proofs.YtgldgdopabmefaaGreatDoor
open Go.RowKit Go.Lib
set_option maxRecDepth 100000
set_option linter.unusedVariables false

/-- Something that is no tag begins at i, whatever number that is. -/
def begNI (l : List UInt8) (i : Int) : Bool := decide (0 ≤ i) && Note.begB (l.drop i.toNat)
theorem begNI_neg {l : List UInt8} {i : Int} (h : i < 0) : begNI l i = false := by unfold begNI; rw [decide_eq_false (by omega)]; rfl
theorem begNI_nat (l : List UInt8) (n : Nat) : begNI l (n : Int) = Note.begB (l.drop n) := by unfold begNI; rw [decide_eq_true (by omega)]; rfl
theorem begNB_end {l : List UInt8} {n : Nat} (h : l.length ≤ n) : Note.begB (l.drop n) = false := by rw [List.drop_of_length_le h]; rfl
theorem begNB_slash {r : List UInt8} (h : hasPrefix r [60, 47] = true) : Note.begB r = (decide (2 < r.length) && !letterN (U8.B r 2)) := by
  unfold Note.begB
  obtain ⟨t, rfl⟩ := List.isPrefixOf_iff_prefix.1 h
  rfl
theorem begNB_other {r : List UInt8} (h : hasPrefix r [60, 47] = false) : Note.begB r = (hasPrefix r [60, 33] || hasPrefix r [60, 63]) := by
  unfold Note.begB
  rw [h, Bool.false_and, Bool.or_false]
theorem bs_isEmpty (l : List UInt8) : (bs l).toList.isEmpty = decide (l.length = 0) := by
  rw [ByteArray.toList_eq]
  cases l with
  | nil => rfl
  | cons a t => rfl
set_option maxHeartbeats 2000000 in
theorem nbegins_any (s : ByteArray) (i : Int) (w : World) (hs : s.size ≤ 1000000) (hi : -9223372036854775808 ≤ i ∧ i ≤ 9223372036854775807) :
    Calls Tryz.prog 31 #[.string s, .int .i64 i] w fun e w' => e = .returned (.bool (begNI s.data.toList i)) ∧ w = w' := by
  obtain ⟨i1, i2⟩ := hi
  have hsl := size_list s
  by_cases hneg : i < 0
  · rw [begNI_neg hneg]
    have d0 : decide (i < 0) = true := decide_eq_true hneg
    clear hsl
    go_enter Tryz.func31, Tryz.ntmps31
    go_wp2
    go_ret
    exact ⟨rfl, rfl⟩
  have d0 : decide (i < 0) = false := decide_eq_false hneg
  obtain ⟨n, rfl⟩ : ∃ n : Nat, i = n := ⟨i.toNat, by omega⟩
  rw [begNI_nat]
  by_cases hlen : s.size ≤ n
  · rw [begNB_end (by omega)]
    have d1 : decide ((s.size : Int) ≤ (n : Int)) = true := decide_eq_true (by omega)
    clear hsl
    go_enter Tryz.func31, Tryz.ntmps31
    go_wp2
    go_ret
    exact ⟨rfl, rfl⟩
  have d1 : decide ((s.size : Int) ≤ (n : Int)) = false := decide_eq_false (by omega)
  have d1N : decide (s.size ≤ n) = false := decide_eq_false (by omega)
  have q1 : ((n : Int)).toNat = n := by omega
  have q2 : (0 : Int) ≤ (n : Int) := by omega
  have q3 : (n : Int) ≤ (s.size : Int) := by omega
  have q4 : n ≤ s.size := by omega
  obtain ⟨r, hr⟩ : ∃ r, s.data.toList.drop n = r := ⟨_, rfl⟩
  have hX : s.extract n s.size = bs r := by rw [drop_bs, hr]
  obtain ⟨X, hXr⟩ : ∃ X, bs r = X := ⟨_, rfl⟩
  have hXl : X.data.toList = r := by rw [← hXr]; rfl
  have P := fun W => pre_cut X ⟨#[60, 47]⟩ [60, 47] W rfl
  have Q1 := fun W => has_pre X ⟨#[60, 33]⟩ [60, 33] W rfl
  have Q2 := fun W => has_pre X ⟨#[60, 63]⟩ [60, 63] W rfl
  rw [hXl] at P Q1 Q2
  rw [hXr] at hX
  rw [hr]
  have HX := hid hX
  cases h47 : hasPrefix r [60, 47] with
  | true =>
    rw [begNB_slash h47]
    simp only [trimPrefix, h47, if_true, List.length_cons, List.length_nil, Nat.zero_add] at P
    obtain ⟨Y, hY⟩ : ∃ Y, bs (r.drop (1 + 1)) = Y := ⟨_, rfl⟩
    rw [hY] at P
    have hYe : Y.toList.isEmpty = decide (r.length - 2 = 0) := by rw [← hY, bs_isEmpty, List.length_drop]
    have hYs : Y.size = r.length - 2 := by rw [← hY, bs_size, List.length_drop]
    have hYl : Y.data.toList = r.drop 2 := by rw [← hY]; rfl
    have P := hid P
    by_cases h2 : 2 < r.length
    · have hx0 : 0 < Y.size := by omega
      have hx0I : (0 : Int) < (Y.size : Int) := by omega
      obtain ⟨c, hc⟩ : ∃ c, Y[0]'hx0 = c := ⟨_, rfl⟩
      have hB := get_of Y 0 hx0
      rw [hc, hYl, U8.B_drop] at hB
      have hc256 := c.toNat_lt
      have HLt := cletter_any c.toNat (by omega)
      rw [decide_eq_false (by omega)] at hYe
      rw [decide_eq_true h2, Bool.true_and, ← hB]
      have HLt := hid HLt
      generalize letterN c.toNat = z at *
      clear hB hYl hYs hY hXl hXr hX hr h47 hsl hlen Q1 Q2 h2
      go_enter Tryz.func31, Tryz.ntmps31
      go_wp2_with fail
      rw [HX.out]
      refine (P.out _).mono ?_
      rintro e w1 ⟨rfl, rfl⟩
      go_wp2_with fail
      refine (HLt.out _).mono ?_
      rintro e w3 ⟨rfl, rfl⟩
      go_wp2
      go_ret
      exact ⟨rfl, rfl⟩
    · rw [decide_eq_true (by omega)] at hYe
      rw [decide_eq_false h2, Bool.false_and]
      clear hYl hYs hY hXl hXr hX hr h47 hsl hlen Q1 Q2 h2
      go_enter Tryz.func31, Tryz.ntmps31
      go_wp2_with fail
      rw [HX.out]
      refine (P.out _).mono ?_
      rintro e w1 ⟨rfl, rfl⟩
      go_wp2
      go_ret
      exact ⟨rfl, rfl⟩
  | false =>
    rw [begNB_other h47]
    rw [trimPrefix, h47, if_neg (by decide)] at P
    have P := hid P
    cases h33 : hasPrefix r [60, 33] with
    | true =>
      rw [h33] at Q1
      have Q1 := hid Q1
      clear hXl hXr hX hr h47 hsl hlen Q2 h33
      go_enter Tryz.func31, Tryz.ntmps31
      go_wp2_with fail
      rw [HX.out]
      refine (P.out _).mono ?_
      rintro e w1 ⟨rfl, rfl⟩
      go_wp2_with fail
      refine (Q1.out _).mono ?_
      rintro e w1 ⟨rfl, rfl⟩
      go_wp2
      go_ret
      exact ⟨rfl, rfl⟩
    | false =>
      rw [h33] at Q1
      have Q1 := hid Q1
      have Q2 := hid Q2
      rw [Bool.false_or]
      generalize hasPrefix r [60, 63] = z at *
      clear hXl hXr hX hr h47 hsl hlen h33
      go_enter Tryz.func31, Tryz.ntmps31
      go_wp2_with fail
      rw [HX.out]
      refine (P.out _).mono ?_
      rintro e w1 ⟨rfl, rfl⟩
      go_wp2_with fail
      refine (Q1.out _).mono ?_
      rintro e w1 ⟨rfl, rfl⟩
      go_wp2_with fail
      refine (Q2.out _).mono ?_
      rintro e w1 ⟨rfl, rfl⟩
      go_wp2
      go_ret
      exact ⟨rfl, rfl⟩

/-- What Read tells. -/
def noteV (l : List UInt8) (i : Int) (cd : Bool) : Value :=
  if begNI l i = true then .tuple #[tokV (Note.first (l.drop i.toNat) cd).1 [] none 0 0 false (Note.first (l.drop i.toNat) cd).2.1, .int .i64 (i + (Note.first (l.drop i.toNat) cd).2.2)]
  else .tuple #[tokV 0 [] none 0 0 false [], .int .i64 i]
theorem tclone (s : ByteArray) (w : World) (hlim : s.size ≤ 281474976710656) :
    Calls Tryz.prog 28 #[.string s] w fun e w' => e = .returned (.string s) ∧ Below w.heap.size w w' := by
  have H := hid fun W => Tryz.stringslite_Clone s W hlim
  go_enter Tryz.func28, Tryz.ntmps28
  go_wp2_with fail
  refine (H.out _).mono ?_
  rintro e w1 ⟨rfl, b1⟩
  go_wp2
  go_ret
  exact ⟨rfl, b1⟩
set_option maxHeartbeats 2000000 in
theorem nread_any (s : ByteArray) (i : Int) (cd : Bool) (w : World) (hW : NoteW w) (hs : s.size ≤ 1000000) (hi : -9223372036854775808 ≤ i ∧ i ≤ 9223372036854775807) :
    Calls Tryz.prog 32 #[.string s, .int .i64 i, .bool cd] w fun e w' => e = .returned (noteV s.data.toList i cd) ∧ Below w.heap.size w w' := by
  have hsl := size_list s
  have HB := fun W => nbegins_any s i W hs hi
  have h0 := hid (BlkW.new w #[.int .u8 0, .string ⟨#[]⟩, .slice none 0 0, .bool false, .string ⟨#[]⟩] 24)
  have b0 := hid ((Below.refl w.heap.size w).alloc (Nat.le_refl _) (.cells #[.int .u8 0, .string ⟨#[]⟩, .slice none 0 0, .bool false, .string ⟨#[]⟩] 24))
  obtain ⟨W1, hW1⟩ : ∃ W1, w.alloc (.cells #[.int .u8 0, .string ⟨#[]⟩, .slice none 0 0, .bool false, .string ⟨#[]⟩] 24) = W1 := ⟨_, rfl⟩
  rw [hW1] at h0 b0
  have HW1 := hid hW1
  clear hW1
  unfold noteV
  cases hb : begNI s.data.toList i with
  | false =>
    rw [hb] at HB
    have HB := hid HB
    rw [if_neg (by decide)]
    obtain ⟨W7, hW7, z0, z1, z2, z3, z4, hb7, _⟩ := tok_store h0.out b0.out (Nat.le_refl _) (.int .u8 0) (.string ⟨#[]⟩) (.slice none 0 0) (.bool false) (.string ⟨#[]⟩)
    have r0 := h0.out.cell 0
    have r1 := h0.out.cell 1
    have r2 := h0.out.cell 2
    have r3 := h0.out.cell 3
    have r4 := h0.out.cell 4
    have f0 := h0.out.free 0
    have f1 := h0.out.free 1
    have f2 := h0.out.free 2
    have f3 := h0.out.free 3
    have f4 := h0.out.free 4
    simp only [List.getElem?_toArray, List.getElem?_cons_zero, List.getElem?_cons_succ] at r0 r1 r2 r3 r4
    have HW7 := hid hW7
    have HB7 := hid hb7
    clear hW7 hb7 hW hb hsl hi
    go_enter Tryz.func32, Tryz.ntmps32
    go_wp2_with fail
    rw [HW1.out]
    refine (HB.out _).mono ?_
    rintro e w1 ⟨rfl, rfl⟩
    go_wp2
    rw [HW7.out]
    refine bodyPost_ret (v := .tuple #[.agg #[.int .u8 0, .string ⟨#[]⟩, .slice none 0 0, .bool false, .string ⟨#[]⟩], .int .i64 i]) (by simp [results, Tryz.results32, go_sem, z0, z1, z2, z3, z4]) rfl ?_
    exact ⟨rfl, HB7.out⟩
  | true =>
    rw [hb] at HB
    have HB := hid HB
    rw [if_pos rfl]
    have hin : 0 ≤ i := by
      unfold begNI at hb
      simp only [Bool.and_eq_true, decide_eq_true_eq] at hb
      exact hb.1
    obtain ⟨n, rfl⟩ : ∃ n : Nat, i = n := ⟨i.toNat, by omega⟩
    rw [begNI_nat] at hb
    rw [show ((n : Int)).toNat = n by omega]
    obtain ⟨r, hr⟩ : ∃ r, s.data.toList.drop n = r := ⟨_, rfl⟩
    rw [hr] at hb ⊢
    have h2 := Note.beg_two hb
    have hrl : r.length = s.size - n := by rw [← hr, List.length_drop, hsl]
    obtain ⟨f1', _, _, a, m', _, ft⟩ := Note.first_form cd hb
    have ftl : (Note.first r cd).2.1.length ≤ 1000000 := by rw [ft, List.length_take, List.length_drop]; omega
    have hX : s.extract n s.size = bs r := by rw [drop_bs, hr]
    obtain ⟨X, hXr⟩ : ∃ X, bs r = X := ⟨_, rfl⟩
    have hXl : X.data.toList = r := by rw [← hXr]; rfl
    have HF := fun W hW => first_any X cd W hW (by rw [← hXr, bs_size]; omega) (by rw [← hXr, bs_size]; omega)
    rw [hXl] at HF
    rw [hXr] at hX
    unfold firstV at HF
    generalize Note.first r cd = F at *
    obtain ⟨K, T, m⟩ := F
    simp only at HF f1' ftl ⊢
    obtain ⟨Y, hY⟩ : ∃ Y, bs (r.drop m) = Y := ⟨_, rfl⟩
    simp only [hY] at HF
    have hYs : Y.size = s.size - n - m := by rw [← hY, bs_size, List.length_drop]; omega
    unfold tokV
    have HC := fun W => tclone (bs T) W (by rw [bs_size]; omega)
    obtain ⟨Z, hZ⟩ : ∃ Z, bs T = Z := ⟨_, rfl⟩
    simp only [hZ] at HF HC ⊢
    have hsub : IntKind.i64.wrap ((s.size : Int) - (Y.size : Int)) = (n : Int) + (m : Int) := by
      rw [show (s.size : Int) - (Y.size : Int) = (n : Int) + (m : Int) by omega]
      exact IntWalk.i64_in _ (by omega)
    have hsub2 : (s.size : Int) - (Y.size : Int) = (n : Int) + (m : Int) := by omega
    have q1 : ((n : Int)).toNat = n := by omega
    have q2 : (0 : Int) ≤ (n : Int) := by omega
    have q3 : (n : Int) ≤ (s.size : Int) := by omega
    have q4 : n ≤ s.size := by omega
    have HX := hid hX
    have HF := hid HF
    have HC := hid HC
    have HN := hid (note_below hW b0.out)
    have HS := hid hsub2
    have HYS := hid hYs
    have HRL := hid (show n + m ≤ s.size by omega)
    clear hX hXl hXr hY hYs hZ ft ftl hrl hr hb h2 hW hsl f1' hsub2
    go_enter Tryz.func32, Tryz.ntmps32
    go_wp2_with fail
    rw [HW1.out]
    refine (HB.out _).mono ?_
    rintro e w1 ⟨rfl, rfl⟩
    go_wp2_with fail
    rw [HX.out]
    refine (HF.out _ HN.out).mono ?_
    rintro e w2 ⟨rfl, b2⟩
    have H2 := hid (h0.out.below b2 h0.out.lt)
    have B2 := hid (b0.out.trans (b2.mono b0.out.size))
    clear b2
    go_wp2_with fail
    refine (HC.out _).mono ?_
    rintro e w3 ⟨rfl, b3⟩
    have H3 := H2.out.below b3 H2.out.lt
    have B3 := B2.out.trans (b3.mono B2.out.size)
    clear b3
    obtain ⟨W7, hW7, z0, z1, z2, z3, z4, hb7, _⟩ := tok_store H3 B3 (Nat.le_refl _) (.int .u8 K) (.string ⟨#[]⟩) (.slice none 0 0) (.bool false) (.string Z)
    have r0 := H3.cell 0
    have r1 := H3.cell 1
    have r2 := H3.cell 2
    have r3 := H3.cell 3
    have r4 := H3.cell 4
    have f0 := H3.free 0
    have f1 := H3.free 1
    have f2 := H3.free 2
    have f3 := H3.free 3
    have f4 := H3.free 4
    simp only [List.getElem?_toArray, List.getElem?_cons_zero, List.getElem?_cons_succ] at r0 r1 r2 r3 r4
    have HW7 := hid hW7
    have HB7 := hid hb7
    clear hW7 hb7 H3 B3
    go_wp2
    rw [HW7.out]
    refine bodyPost_ret (v := .tuple #[.agg #[.int .u8 K, .string ⟨#[]⟩, .slice none 0 0, .bool false, .string Z], .int .i64 ((n : Int) + (m : Int))]) (by simp [results, Tryz.results32, go_sem, z0, z1, z2, z3, z4]) rfl ?_
    exact ⟨rfl, HB7.out⟩
end Go.Proofs.YtgldgdopabmefaaGreatDoor
namespace Go.Proofs.YtgldgdopabmefaaGreatDoor
open Go.RowKit Go.Lib
set_option maxRecDepth 100000
set_option linter.unusedVariables false

/-- Two tokens in memory, one behind the other: the result, and the one in work. -/
structure TwoW (w W : World) (K : Nat) (T : ByteArray) : Prop where
  res : BlkW W w.heap.size #[.int .u8 0, .string ⟨#[]⟩, .slice none 0 0, .bool false, .string ⟨#[]⟩] 24
  tok : BlkW W (w.heap.size + 1) #[.int .u8 K, .string ⟨#[]⟩, .slice none 0 0, .bool false, .string T] 24
  bel : Below w.heap.size w W
theorem two_new (w : World) : TwoW w ((w.alloc (.cells #[.int .u8 0, .string ⟨#[]⟩, .slice none 0 0, .bool false, .string ⟨#[]⟩] 24)).alloc (.cells #[.int .u8 4, .string ⟨#[]⟩, .slice none 0 0, .bool false, .string ⟨#[]⟩] 24)) 4 ⟨#[]⟩ :=
  ⟨(BlkW.new w _ _).alloc _, by
    have h := BlkW.new (w.alloc (.cells #[.int .u8 0, .string ⟨#[]⟩, .slice none 0 0, .bool false, .string ⟨#[]⟩] 24)) #[.int .u8 4, .string ⟨#[]⟩, .slice none 0 0, .bool false, .string ⟨#[]⟩] 24
    rwa [show (w.alloc (.cells #[.int .u8 0, .string ⟨#[]⟩, .slice none 0 0, .bool false, .string ⟨#[]⟩] 24)).heap.size = w.heap.size + 1 by simp] at h, ((Below.refl w.heap.size w).alloc (Nat.le_refl _) _).alloc (by simp) _⟩
theorem TwoW.below' {w W W' : World} {K : Nat} {T : ByteArray} (h : TwoW w W K T) (hb : Below W.heap.size W W') : TwoW w W' K T := ⟨h.res.below hb h.res.lt, h.tok.below hb h.tok.lt, h.bel.trans (hb.mono h.bel.size)⟩
theorem TwoW.text {w W : World} {K : Nat} {T : ByteArray} (h : TwoW w W K T) (T' : ByteArray) : TwoW w (W.setCell ⟨w.heap.size + 1, 4, none⟩ (.string T')) K T' :=
  ⟨h.res.far _ _ (by simp), h.tok.set_ 4 _, h.bel.setCell (by simp) _⟩
theorem noteV_yes {l : List UInt8} {n : Nat} {cd : Bool} {K m : Nat} {t : List UInt8} (hb : begNI l n = true) (hf : Note.first (l.drop n) cd = (K, t, m)) : noteV l n cd = .tuple #[.agg #[.int .u8 K, .string ⟨#[]⟩, .slice none 0 0, .bool false, .string (bs t)], .int .i64 ((n : Int) + (m : Int))] := by
  unfold noteV
  rw [if_pos hb, show ((n : Int)).toNat = n by omega, hf]
  rfl
theorem two_new6 (w : World) : TwoW w ((w.alloc (.cells #[.int .u8 0, .string ⟨#[]⟩, .slice none 0 0, .bool false, .string ⟨#[]⟩] 24)).alloc (.cells #[.int .u8 6, .string ⟨#[]⟩, .slice none 0 0, .bool false, .string ⟨#[]⟩] 24)) 6 ⟨#[]⟩ :=
  ⟨(BlkW.new w _ _).alloc _, by
    have h := BlkW.new (w.alloc (.cells #[.int .u8 0, .string ⟨#[]⟩, .slice none 0 0, .bool false, .string ⟨#[]⟩] 24)) #[.int .u8 6, .string ⟨#[]⟩, .slice none 0 0, .bool false, .string ⟨#[]⟩] 24
    rwa [show (w.alloc (.cells #[.int .u8 0, .string ⟨#[]⟩, .slice none 0 0, .bool false, .string ⟨#[]⟩] 24)).heap.size = w.heap.size + 1 by simp] at h, ((Below.refl w.heap.size w).alloc (Nat.le_refl _) _).alloc (by simp) _⟩
theorem TwoW.more {w W : World} {K : Nat} {T : ByteArray} (h : TwoW w W K T) (o : Obj) : TwoW w (W.alloc o) K T := ⟨h.res.alloc o, h.tok.alloc o, h.bel.alloc h.bel.size o⟩
theorem blk_far {W : World} {g H : Nat} {cs : Array Value} {t : TypeId} (h : BlkW W H cs t) (hg : W.heap.size = g) : H ≠ g := by have := h.lt; omega
end Go.Proofs.YtgldgdopabmefaaGreatDoor
