/- Walks over the program's package open: Until, Implied, Clear, In, Item. -/
import Derived.Test.YtolbohmalgklmaaOpenCl
import Derived.Test.YtolbohmalgklmaaOpenLt
namespace Go.Proofs.Ytolbohmalgklmaa
open Go.RowKit Go.Lib
set_option maxRecDepth 100000
set_option linter.unusedVariables false
/-- How it lies in memory that elements came in. -/
structure ElemsIn (a : Option Addr) (len cap : Nat) (l : List Opn.E) (w : World) : Prop where
  isE : IsE w a len l
  few : len ≤ 4294967296
  fits : len ≤ cap
  fits2 : cap ≤ 9223372036854775807
  sp : ∀ x ∈ l, x.space < 256
theorem ElemsIn.below {a : Option Addr} {len cap : Nat} {l : List Opn.E} {w w' : World} (h : ElemsIn a len cap l w) (hb : Below w.heap.size w w') : ElemsIn a len cap l w' := ⟨h.isE.below hb, h.few, h.fits, h.fits2, h.sp⟩
set_option maxHeartbeats 4000000 in
theorem puntil_any (a : Option Addr) (len cap : Nat) (l : List Opn.E) (b : Option Addr) (bn bc : Nat) (ns : List (List UInt8)) (w : World) (h : ElemsIn a len cap l w) (g : NamesIn b bn bc ns w) :
    Calls Try.prog 18 #[.slice a len cap, .slice b bn bc] w fun e w' => e = .returned (.int .i64 (Opn.untilI l ns len)) ∧ Below w.heap.size w w' := by
  have al := (Below.refl w.heap.size w).alloc (Nat.le_refl _) (.cells #[.slice b bn bc] 23)
  have c0 := (BlkW.new w #[.slice b bn bc] 23).cell 0
  have HL := hid (last_until a len cap l (fun x => Opn.oneB x ns) ⟨w.heap.size, 0, none⟩ _ (h.below al).isE h.few fun x W hx hb => cl_until x _ b bn bc ns W (cell_up c0 hb) ((g.below al).below hb))
  rw [← Opn.until_last] at HL
  generalize Opn.untilI l ns len = R at *
  have HA := hid al
  clear al c0 h g
  go_enter Try.func18, Try.ntmps18
  go_wp2_with fail
  refine HL.out.mono ?_
  rintro e w2 ⟨rfl, b2⟩
  have B2 := hid (HA.out.trans (b2.mono HA.out.size))
  clear HL b2
  go_wp2
  go_ret
  exact ⟨rfl, B2.out⟩
set_option maxHeartbeats 4000000 in
theorem pclear_any (a : Option Addr) (len cap : Nat) (l : List Opn.E) (b : Option Addr) (bn bc : Nat) (ns : List (List UInt8)) (w : World) (h : ElemsIn a len cap l w) (g : NamesIn b bn bc ns w) :
    Calls Try.prog 20 #[.slice a len cap, .slice b bn bc] w fun e w' => e = .returned (.int .i64 (Opn.clearN l ns len)) ∧ Below w.heap.size w w' := by
  have al := (Below.refl w.heap.size w).alloc (Nat.le_refl _) (.cells #[.slice b bn bc] 23)
  have c0 := (BlkW.new w #[.slice b bn bc] 23).cell 0
  have HL := hid (last_clear a len cap l (Opn.clrS ns) ⟨w.heap.size, 0, none⟩ _ (h.below al).isE h.few fun x W hx hb => cl_clear x _ b bn bc ns W (cell_up c0 hb) ((g.below al).below hb))
  have HR := hid (Opn.clear_last l ns len (by rw [h.isE.1]; exact Nat.le_refl _))
  have HLI := hid (Opn.lastI_is (Opn.clrS ns) l len)
  generalize Opn.lastI (Opn.clrS ns) l len = R at *
  have HA := hid al
  have hl := h.few
  clear al c0 h g
  have hR : -1 ≤ R ∧ R < 4294967296 := by
    rcases HLI.out with e | ⟨k, x, e, hk, _⟩ <;> omega
  clear HLI
  go_enter Try.func20, Try.ntmps20
  go_wp2_with fail
  refine HL.out.mono ?_
  rintro e w2 ⟨rfl, b2⟩
  have B2 := hid (HA.out.trans (b2.mono HA.out.size))
  clear HL b2
  go_wp2
  go_ret
  exact ⟨by rw [HR.out]; go_num, B2.out⟩
set_option maxHeartbeats 4000000 in
theorem pimplied_any (a : Option Addr) (len cap : Nat) (l : List Opn.E) (ex : List UInt8) (w : World) (h : ElemsIn a len cap l w) :
    Calls Try.prog 16 #[.slice a len cap, .string (bs ex)] w fun e w' => e = .returned (.int .i64 (Opn.impliedN l ex len)) ∧ Below w.heap.size w w' := by
  have al := (Below.refl w.heap.size w).alloc (Nat.le_refl _) (.cells #[.string (bs ex)] 9)
  have c0 := (BlkW.new w #[.string (bs ex)] 9).cell 0
  have HL := hid (last_implied a len cap l (Opn.impS ex) ⟨w.heap.size, 0, none⟩ _ (h.below al).isE h.few fun x W hx hb => cl_implied x _ ex W (cell_up c0 hb))
  have HR := hid (Opn.implied_last l ex len (by rw [h.isE.1]; exact Nat.le_refl _))
  have HLI := hid (Opn.lastI_is (Opn.impS ex) l len)
  generalize Opn.lastI (Opn.impS ex) l len = R at *
  have HA := hid al
  have hl := h.few
  clear al c0 h
  have hR : -1 ≤ R ∧ R < 4294967296 := by
    rcases HLI.out with e | ⟨k, x, e, hk, _⟩ <;> omega
  clear HLI
  generalize bs ex = X at *
  go_enter Try.func16, Try.ntmps16
  go_wp2_with fail
  refine HL.out.mono ?_
  rintro e w2 ⟨rfl, b2⟩
  have B2 := hid (HA.out.trans (b2.mono HA.out.size))
  clear HL b2
  go_wp2
  go_ret
  exact ⟨by rw [HR.out]; go_num, B2.out⟩
set_option maxHeartbeats 4000000 in
theorem pin_any (a : Option Addr) (len cap : Nat) (l : List Opn.E) (sc : Nat) (b : Option Addr) (bn bc : Nat) (ns : List (List UInt8)) (w : World) (h : ElemsIn a len cap l w) (g : NamesIn b bn bc ns w) (hsc : sc < 256) :
    Calls Try.prog 10 #[.slice a len cap, .int .u8 sc, .slice b bn bc] w fun e w' => e = .returned (.bool (Opn.inB l sc ns len)) ∧ Below w.heap.size w w' := by
  have al1 := (Below.refl w.heap.size w).alloc (Nat.le_refl _) (.cells #[.int .u8 sc] 5)
  have al := al1.alloc al1.size (.cells #[.slice b bn bc] 23)
  have c1 := ((BlkW.new w #[.int .u8 sc] 5).alloc (.cells #[.slice b bn bc] 23)).cell 0
  have c0 := (BlkW.new (w.alloc (.cells #[.int .u8 sc] 5)) #[.slice b bn bc] 23).cell 0
  rw [World.size_alloc] at c0
  have HL := hid (last_in a len cap l (Opn.inS sc ns) ⟨w.heap.size + 1, 0, none⟩ ⟨w.heap.size, 0, none⟩ _ (h.below al).isE h.few fun x W hx hb => cl_in x sc _ _ b bn bc ns W (cell_up c0 hb) (cell_up c1 hb) ((g.below al).below hb) (h.sp x hx) hsc)
  have HC := hid c0
  have HG := hid (g.below al)
  have HE := hid (h.below al).isE
  have HA := hid al
  have hl := h.few
  have hll := h.isE.1
  clear al1 al c0 c1 h g
  have HLI := Opn.in_last l sc ns len
  generalize Opn.inB l sc ns len = R at *
  rcases HLI with ⟨hi, rfl⟩ | ⟨k, x, hi, hk, hx, hR⟩
  · rw [hi] at HL
    go_enter Try.func10, Try.ntmps10
    go_wp2_with fail
    refine HL.out.mono ?_
    rintro e w2 ⟨rfl, b2⟩
    have B2 := hid (HA.out.trans (b2.mono HA.out.size))
    clear HL b2
    go_wp2
    go_region
    go_wp2
    go_ret
    exact ⟨rfl, B2.out.drew⟩
  · rw [hi] at HL
    go_enter Try.func10, Try.ntmps10
    go_wp2_with fail
    refine HL.out.mono ?_
    rintro e w2 ⟨rfl, b2⟩
    have B2 := hid (HA.out.trans (b2.mono HA.out.size))
    obtain ⟨hl2, h0 | ⟨blk, off, rfl, hat⟩⟩ := HE.out
    · omega
    obtain ⟨x0, x1, x2, x3⟩ := hat k x hx
    have d0 := cell_up x0 b2
    have d1 := cell_up x1 b2
    have d2 := cell_up x2 b2
    have d3 := cell_up x3 b2
    have n0 := cell_up HC.out b2
    have HGW := HG.out.below b2
    have HO := hid fun W (hb : Below w2.heap.size w2 W) => pone_e x (HGW.below hb)
    have e0 := Below.refl w2.heap.size w2
    have hkI : (k : Int) < (len : Int) := by omega
    have k0 : decide ((0 : Int) ≤ (k : Int)) = true := decide_eq_true (by omega)
    rw [← hR] at HO
    clear HL b2 hat x0 x1 x2 x3 hx hR HGW
    go_wp2
    go_region_with (first | (go_at_call 27; with_reducible refine (HO.out _ e0.drew).mono ?_; rintro e wk ⟨rfl, bk⟩; have ck := e0.drew.trans (bk.mono e0.drew.size)))
    all_goals (go_wp2; go_ret; exact ⟨rfl, B2.out.trans (ck.mono B2.out.size)⟩)
set_option maxHeartbeats 4000000 in
theorem pitem_any (a : Option Addr) (len cap : Nat) (l : List Opn.E) (b : Option Addr) (bn bc : Nat) (ns : List (List UInt8)) (w : World) (h : ElemsIn a len cap l w) (g : NamesIn b bn bc ns w) :
    Calls Try.prog 22 #[.slice a len cap, .slice b bn bc] w fun e w' => e = .returned (.int .i64 (Opn.itemI l ns len)) ∧ Below w.heap.size w w' := by
  have al := (Below.refl w.heap.size w).alloc (Nat.le_refl _) (.cells #[.slice b bn bc] 23)
  have c0 := (BlkW.new w #[.slice b bn bc] 23).cell 0
  have HL := hid (last_item a len cap l (Opn.itmS ns) ⟨w.heap.size, 0, none⟩ _ (h.below al).isE h.few fun x W hx hb => cl_item x _ b bn bc ns W (cell_up c0 hb) ((g.below al).below hb) (h.sp x hx))
  have HC := hid c0
  have HG := hid (g.below al)
  have HE := hid (h.below al).isE
  have HA := hid al
  have hl := h.few
  have hll := h.isE.1
  clear al c0 h g
  have HLI := Opn.item_last l ns len
  generalize Opn.itemI l ns len = R at *
  rcases HLI with ⟨hi, rfl⟩ | ⟨k, x, hi, hk, hx, hR⟩
  · rw [hi] at HL
    go_enter Try.func22, Try.ntmps22
    go_wp2_with fail
    refine HL.out.mono ?_
    rintro e w2 ⟨rfl, b2⟩
    have B2 := hid (HA.out.trans (b2.mono HA.out.size))
    clear HL b2
    go_wp2
    go_region
    go_wp2
    go_ret
    exact ⟨rfl, B2.out.drew⟩
  · rw [hi] at HL
    go_enter Try.func22, Try.ntmps22
    go_wp2_with fail
    refine HL.out.mono ?_
    rintro e w2 ⟨rfl, b2⟩
    have B2 := hid (HA.out.trans (b2.mono HA.out.size))
    obtain ⟨hl2, h0 | ⟨blk, off, rfl, hat⟩⟩ := HE.out
    · omega
    obtain ⟨x0, x1, x2, x3⟩ := hat k x hx
    have d0 := cell_up x0 b2
    have d1 := cell_up x1 b2
    have d2 := cell_up x2 b2
    have d3 := cell_up x3 b2
    have n0 := cell_up HC.out b2
    have HGW := HG.out.below b2
    have HO := hid fun W (hb : Below w2.heap.size w2 W) => pone_e x (HGW.below hb)
    have e0 := Below.refl w2.heap.size w2
    have hkI : (k : Int) < (len : Int) := by omega
    have k0 : decide ((0 : Int) ≤ (k : Int)) = true := decide_eq_true (by omega)
    generalize Opn.oneB x ns = o at *
    have HR := hid hR
    clear HL b2 hat x0 x1 x2 x3 hx hR HGW
    cases o with
    | true =>
      go_wp2
      go_region_with (first | (go_at_call 27; with_reducible refine (HO.out _ e0.drew).mono ?_; rintro e wk ⟨rfl, bk⟩; have ck := e0.drew.trans (bk.mono e0.drew.size)))
      all_goals (go_wp2; go_ret; exact ⟨by rw [HR.out]; rfl, B2.out.trans (ck.mono B2.out.size)⟩)
    | false =>
      go_wp2
      go_region_with (first | (go_at_call 27; with_reducible refine (HO.out _ e0.drew).mono ?_; rintro e wk ⟨rfl, bk⟩; have ck := e0.drew.trans (bk.mono e0.drew.size)))
      all_goals (go_wp2; go_ret; exact ⟨by rw [HR.out]; rfl, B2.out.trans (ck.mono B2.out.size)⟩)
end Go.Proofs.Ytolbohmalgklmaa
