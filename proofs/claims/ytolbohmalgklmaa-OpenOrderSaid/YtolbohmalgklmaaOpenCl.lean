/- Walks over the program's package open: the closures that stop its walks. -/
import Derived.Test.YtolbohmalgklmaaOpenPc
namespace Go.Proofs.Ytolbohmalgklmaa
open Go.RowKit Go.Lib
set_option maxRecDepth 100000
set_option linter.unusedVariables false
/-- How it lies in memory that names came in. -/
structure NamesIn (b : Option Addr) (bn bc : Nat) (ns : List (List UInt8)) (w : World) : Prop where
  isS : IsS w b bn ns
  few : bn ≤ 4294967296
  cap : bn ≤ bc
  cap2 : bc ≤ 9223372036854775807
theorem NamesIn.below {b : Option Addr} {bn bc : Nat} {ns : List (List UInt8)} {w w' : World} (h : NamesIn b bn bc ns w) (hb : Below w.heap.size w w') : NamesIn b bn bc ns w' := ⟨h.isS.below hb, h.few, h.cap, h.cap2⟩
/-- oneOf, of an element whole. -/
theorem pone_e (x : Opn.E) {b : Option Addr} {bn bc : Nat} {ns : List (List UInt8)} {w : World} (h : NamesIn b bn bc ns w) :
    Calls Try.prog 27 #[.agg #[.int .i64 x.id, .int .u8 x.space, .string (bs x.name), .int .u8 x.point], .slice b bn bc] w fun e w' => e = .returned (.bool (Opn.oneB x ns)) ∧ Below w.heap.size w w' :=
  pone_any x.id x.space x.point x.name b bn bc ns w h.isS h.few h.cap h.cap2
theorem cells_e (x : Opn.E) {W : World} {g : Nat} {t : TypeId} (h : BlkW W g #[.int .i64 x.id, .int .u8 x.space, .string (bs x.name), .int .u8 x.point] t) :
    W.cell? ⟨g, 0, none⟩ = some (.int .i64 x.id) ∧ W.cell? ⟨g, 1, none⟩ = some (.int .u8 x.space) ∧ W.cell? ⟨g, 2, none⟩ = some (.string (bs x.name)) ∧ W.cell? ⟨g, 3, none⟩ = some (.int .u8 x.point) :=
  ⟨h.cell 0, h.cell 1, h.cell 2, h.cell 3⟩
set_option maxHeartbeats 4000000 in
theorem cl_until (x : Opn.E) (pn : Addr) (b : Option Addr) (bn bc : Nat) (ns : List (List UInt8)) (w : World) (hn : w.cell? pn = some (.slice b bn bc)) (g : NamesIn b bn bc ns w) :
    Calls Try.prog 36 #[.agg #[.int .i64 x.id, .int .u8 x.space, .string (bs x.name), .int .u8 x.point], .pointer (some pn)] w fun e w' => e = .returned (.bool (Opn.oneB x ns)) ∧ Below w.heap.size w w' := by
  have al := (Below.refl w.heap.size w).alloc (Nat.le_refl _) (.cells #[.int .i64 x.id, .int .u8 x.space, .string (bs x.name), .int .u8 x.point] 37)
  have HO := hid (pone_e x (g.below al))
  have n1 := cell_up hn al
  have HA := hid al
  clear al hn g
  go_enter Try.func36, Try.ntmps36
  go_wp2_with fail
  refine HO.out.mono ?_
  rintro e w2 ⟨rfl, b2⟩
  have B2 := hid (HA.out.trans (b2.mono HA.out.size))
  clear HO n1 b2
  go_wp2
  go_ret
  exact ⟨rfl, B2.out⟩
set_option maxHeartbeats 8000000 in
theorem cl_in (x : Opn.E) (sc : Nat) (pn ps : Addr) (b : Option Addr) (bn bc : Nat) (ns : List (List UInt8)) (w : World) (hn : w.cell? pn = some (.slice b bn bc)) (hc : w.cell? ps = some (.int .u8 sc)) (g : NamesIn b bn bc ns w) (hsp : x.space < 256) (hsc : sc < 256) :
    Calls Try.prog 26 #[.agg #[.int .i64 x.id, .int .u8 x.space, .string (bs x.name), .int .u8 x.point], .pointer (some pn), .pointer (some ps)] w fun e w' => e = .returned (.bool (Opn.inS sc ns x)) ∧ Below w.heap.size w w' := by
  have al := (Below.refl w.heap.size w).alloc (Nat.le_refl _) (.cells #[.int .i64 x.id, .int .u8 x.space, .string (bs x.name), .int .u8 x.point] 37)
  have HO := hid (pone_e x (g.below al))
  have HB := hid fun W => pbounds_any x sc W hsp hsc
  have HC := hid (cells_e x (BlkW.new w _ 37))
  have n1 := cell_up hn al
  have HS := hid (cell_up hc al)
  have HA := hid al
  have HR := hid (show Opn.inS sc ns x = (Opn.oneB x ns || Opn.boundB x sc) from rfl)
  generalize Opn.inS sc ns x = R at *
  generalize Opn.oneB x ns = o at *
  generalize Opn.boundB x sc = c at *
  clear al hn g hc
  cases o with
  | true =>
    go_enter Try.func26, Try.ntmps26
    go_wp2_with fail
    refine HO.out.mono ?_
    rintro e w2 ⟨rfl, b2⟩
    have B2 := hid (HA.out.trans (b2.mono HA.out.size))
    clear HO n1 b2
    go_wp2
    go_ret
    exact ⟨ret_bool' (by rw [HR.out]; rfl), B2.out⟩
  | false =>
    go_enter Try.func26, Try.ntmps26
    go_wp2_with fail
    refine HO.out.mono ?_
    rintro e w2 ⟨rfl, b2⟩
    have c0 := cell_up HC.out.1 b2
    have c1 := cell_up HC.out.2.1 b2
    have c2 := cell_up HC.out.2.2.1 b2
    have c3 := cell_up HC.out.2.2.2 b2
    have s1 := cell_up HS.out b2
    have B2 := hid (HA.out.trans (b2.mono HA.out.size))
    clear HO n1 b2
    go_wp2_with fail
    refine (HB.out _).mono ?_
    rintro e w3 ⟨rfl, b3⟩
    have B3 := hid (B2.out.trans (b3.mono B2.out.size))
    clear b3 c0 c1 c2 c3 s1
    go_wp2
    go_ret
    exact ⟨ret_bool' (by rw [HR.out]; rfl), B3.out⟩
set_option maxHeartbeats 8000000 in
theorem cl_item (x : Opn.E) (pn : Addr) (b : Option Addr) (bn bc : Nat) (ns : List (List UInt8)) (w : World) (hn : w.cell? pn = some (.slice b bn bc)) (g : NamesIn b bn bc ns w) (hsp : x.space < 256) :
    Calls Try.prog 38 #[.agg #[.int .i64 x.id, .int .u8 x.space, .string (bs x.name), .int .u8 x.point], .pointer (some pn)] w fun e w' => e = .returned (.bool (Opn.itmS ns x)) ∧ Below w.heap.size w w' := by
  have al := (Below.refl w.heap.size w).alloc (Nat.le_refl _) (.cells #[.int .i64 x.id, .int .u8 x.space, .string (bs x.name), .int .u8 x.point] 37)
  have HO := hid (pone_e x (g.below al))
  have HB := hid fun W => pkeep_any x W hsp
  have HC := hid (cells_e x (BlkW.new w _ 37))
  have n1 := cell_up hn al
  have HA := hid al
  have HR := hid (show Opn.itmS ns x = (Opn.oneB x ns || Opn.keepB x) from rfl)
  generalize Opn.itmS ns x = R at *
  generalize Opn.oneB x ns = o at *
  generalize Opn.keepB x = c at *
  clear al hn g
  cases o with
  | true =>
    go_enter Try.func38, Try.ntmps38
    go_wp2_with fail
    refine HO.out.mono ?_
    rintro e w2 ⟨rfl, b2⟩
    have B2 := hid (HA.out.trans (b2.mono HA.out.size))
    clear HO n1 b2
    go_wp2
    go_ret
    exact ⟨ret_bool' (by rw [HR.out]; rfl), B2.out⟩
  | false =>
    go_enter Try.func38, Try.ntmps38
    go_wp2_with fail
    refine HO.out.mono ?_
    rintro e w2 ⟨rfl, b2⟩
    have c0 := cell_up HC.out.1 b2
    have c1 := cell_up HC.out.2.1 b2
    have c2 := cell_up HC.out.2.2.1 b2
    have c3 := cell_up HC.out.2.2.2 b2
    have B2 := hid (HA.out.trans (b2.mono HA.out.size))
    clear HO n1 b2
    go_wp2_with fail
    refine (HB.out _).mono ?_
    rintro e w3 ⟨rfl, b3⟩
    have B3 := hid (B2.out.trans (b3.mono B2.out.size))
    clear b3 c0 c1 c2 c3
    go_wp2
    go_ret
    exact ⟨ret_bool' (by rw [HR.out]; rfl), B3.out⟩
set_option maxHeartbeats 8000000 in
theorem cl_clear (x : Opn.E) (pn : Addr) (b : Option Addr) (bn bc : Nat) (ns : List (List UInt8)) (w : World) (hn : w.cell? pn = some (.slice b bn bc)) (g : NamesIn b bn bc ns w) :
    Calls Try.prog 37 #[.agg #[.int .i64 x.id, .int .u8 x.space, .string (bs x.name), .int .u8 x.point], .pointer (some pn)] w fun e w' => e = .returned (.bool (Opn.clrS ns x)) ∧ Below w.heap.size w w' := by
  have al := (Below.refl w.heap.size w).alloc (Nat.le_refl _) (.cells #[.int .i64 x.id, .int .u8 x.space, .string (bs x.name), .int .u8 x.point] 37)
  have HO := hid (pone_e x (g.below al))
  have HB := hid fun (a : Addr) W (h : IsS W (some a) 2 Opn.endN) => pone_e x (b := some a) (bn := 2) (bc := 2) (ns := Opn.endN) (w := W) ⟨h, by omega, by omega, by omega⟩
  have HC := hid (cells_e x (BlkW.new w _ 37))
  have n1 := cell_up hn al
  have HA := hid al
  have HR := hid (show Opn.clrS ns x = (Opn.oneB x ns || Opn.oneB x Opn.endN) from rfl)
  generalize Opn.clrS ns x = R at *
  generalize Opn.oneB x ns = o at *
  generalize Opn.oneB x Opn.endN = c at *
  clear al hn g
  cases o with
  | true =>
    go_enter Try.func37, Try.ntmps37
    go_wp2_with fail
    refine HO.out.mono ?_
    rintro e w2 ⟨rfl, b2⟩
    have B2 := hid (HA.out.trans (b2.mono HA.out.size))
    clear HO n1 b2
    go_wp2
    go_ret
    exact ⟨ret_bool' (by rw [HR.out]; rfl), B2.out⟩
  | false =>
    go_enter Try.func37, Try.ntmps37
    go_wp2_with fail
    refine HO.out.mono ?_
    rintro e w2 ⟨rfl, b2⟩
    have c0 := cell_up HC.out.1 b2
    have c1 := cell_up HC.out.2.1 b2
    have c2 := cell_up HC.out.2.2.1 b2
    have c3 := cell_up HC.out.2.2.2 b2
    have B2 := hid (HA.out.trans (b2.mono HA.out.size))
    have HN := hid (isS_of_block (ls := Opn.endN) (n := 2) rfl (heap_alloc_new w2 (.cells #[.string ⟨#[104, 116, 109, 108]⟩, .string ⟨#[116, 101, 109, 112, 108, 97, 116, 101]⟩] 9)) rfl)
    clear HO n1 b2
    go_wp2_with fail
    refine (HB.out _ _ HN.out).mono ?_
    rintro e w3 ⟨rfl, b3⟩
    have B3 := hid ((B2.out.alloc B2.out.size (.cells #[.string ⟨#[104, 116, 109, 108]⟩, .string ⟨#[116, 101, 109, 112, 108, 97, 116, 101]⟩] 9)).trans (b3.mono (B2.out.alloc B2.out.size _).size))
    clear b3 c0 c1 c2 c3 HN
    go_wp2
    go_ret
    exact ⟨ret_bool' (by rw [HR.out]; rfl), B3.out⟩
set_option maxHeartbeats 8000000 in
theorem cl_implied (x : Opn.E) (pn : Addr) (ex : List UInt8) (w : World) (hn : w.cell? pn = some (.string (bs ex))) :
    Calls Try.prog 34 #[.agg #[.int .i64 x.id, .int .u8 x.space, .string (bs x.name), .int .u8 x.point], .pointer (some pn)] w fun e w' => e = .returned (.bool (Opn.impS ex x)) ∧ Below w.heap.size w w' := by
  have al := (Below.refl w.heap.size w).alloc (Nat.le_refl _) (.cells #[.int .i64 x.id, .int .u8 x.space, .string (bs x.name), .int .u8 x.point] 37)
  have HO := hid fun W => pends_any x W
  have HC := hid (cells_e x (BlkW.new w _ 37))
  have HS := hid (cell_up hn al)
  have HA := hid al
  have HR := hid (show Opn.impS ex x = (!Opn.oneB x Opn.impN || decide (x.name = ex)) from rfl)
  generalize Opn.impS ex x = R at *
  generalize Opn.oneB x Opn.impN = o at *
  clear al hn
  cases o with
  | false =>
    go_enter Try.func34, Try.ntmps34
    go_wp2_with fail
    refine (HO.out _).mono ?_
    rintro e w2 ⟨rfl, b2⟩
    have B2 := hid (HA.out.trans (b2.mono HA.out.size))
    clear HO b2
    go_wp2
    go_ret
    exact ⟨ret_bool' (by rw [HR.out]; rfl), B2.out⟩
  | true =>
    have HE := hid (show ((bs x.name).toList == (bs ex).toList) = decide (x.name = ex) by
      by_cases h : x.name = ex
      · rw [h]; simp
      · rw [decide_eq_false h]; exact beq_eq_false_iff_ne.2 fun e => h (bs_inj e))
    generalize decide (x.name = ex) = d at *
    generalize bs ex = X at *
    go_enter Try.func34, Try.ntmps34
    go_wp2_with fail
    refine (HO.out _).mono ?_
    rintro e w2 ⟨rfl, b2⟩
    have c2 := cell_up HC.out.2.2.1 b2
    have s1 := cell_up HS.out b2
    have B2 := hid (HA.out.trans (b2.mono HA.out.size))
    clear HO b2
    generalize bs x.name = Y at *
    go_wp2
    go_ret
    exact ⟨ret_bool' (by rw [HR.out, ← HE.out]; rfl), B2.out⟩
end Go.Proofs.Ytolbohmalgklmaa
