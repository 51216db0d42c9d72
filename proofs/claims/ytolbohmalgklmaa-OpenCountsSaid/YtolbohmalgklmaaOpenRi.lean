/- Walks over the reference of layer 11: Item. -/
import Derived.Test.YtolbohmalgklmaaOpenRf
import Derived.Deep.RegionHeld3
namespace Go.Proofs.Ytolbohmalgklmaa
open Go.RowKit Go.Lib
set_option maxRecDepth 100000
set_option linter.unusedVariables false
set_option maxHeartbeats 16000000 in
theorem ritem_any (a : Option Addr) (len cap : Nat) (l : List Opn.E) (b : Option Addr) (bn bc : Nat) (ns : List (List UInt8)) (w : World) (h : ElemsIn a len cap l w) (g : NamesIn b bn bc ns w) :
    Calls Try.prog 23 #[.slice a len cap, .slice b bn bc] w fun e w' => e = .returned (.int .i64 (Opn.itemI l ns len)) ∧ Below w.heap.size w w' := by
  have HH := hid h.isE
  have HN := hid fun (x : Opn.E) W (hb : Below w.heap.size w W) => rone_e x (g.below hb)
  have HS := hid fun (x : Opn.E) (hx : x ∈ l) W => rspec_any x.space x.name W (h.sp x hx)
  have HO := hid fun (x : Opn.E) (a : Addr) W (h : IsS W (some a) 3 Opn.adpN) => rone_e x (b := some a) (bn := 3) (bc := 3) (ns := Opn.adpN) (w := W) ⟨h, by omega, by omega, by omega⟩
  obtain ⟨R, hR⟩ : ∃ R, Opn.itemI l ns len = R := ⟨_, rfl⟩
  rw [hR]
  have HR := hid hR
  have hf := h.few
  clear h g hR
  go_enter Try.func23, Try.ntmps23
  go_wp2
  go_loopg [5] len (fun g iv wr => ∃ k : Nat, k = g ∧ k ≤ len ∧ iv = .int .i64 ((k : Int) - 1) ∧ Hid (Opn.itemI l ns k = R) ∧ Hid (Below w.heap.size w wr))
  case atStart => exact ⟨len, rfl, Nat.le_refl _, by go_num, HR, hid (Below.refl _ _)⟩
  case round =>
    obtain ⟨kk, hk, hg, rfl, hI, hb⟩ := hrel
    by_cases hlt : kk = 0
    · subst hlt
      have HR2 := hid (show -1 = R from hI.out)
      clear hI
      go_wp2
      go_ret
      exact ⟨by rw [← HR2.out]; rfl, hb.out⟩
    · obtain ⟨k, rfl⟩ : ∃ k, kk = k + 1 := ⟨kk - 1, by omega⟩
      have d0 : decide ((0 : Int) ≤ (k : Int)) = true := decide_eq_true (by omega)
      obtain ⟨hll, h0 | ⟨blk, off, rfl, _⟩⟩ := HH.out
      · omega
      obtain ⟨x, hx⟩ : ∃ x, l[k]? = some x := ⟨_, List.getElem?_eq_getElem (by omega)⟩
      obtain ⟨c0, c1, c2, c3⟩ := elem_at (HH.out.below hb.out) hx
      have HE := hid fun W (hw : Below w.heap.size w W) => elem_at (HH.out.below hw) hx
      have kk1 : ((k + 1 : Nat) : Int) - 1 = (k : Int) := by omega
      rw [kk1]
      have hkl : (k : Int) < (len : Int) := by omega
      have hkl2 : k < len := by omega
      rw [Opn.itemI_step hx] at hI
      have HNX := hid (HN.out x wr hb.out)
      have HSX := hid (HS.out x (List.mem_of_getElem? hx))
      have HOX := hid (HO.out x)
      generalize Opn.oneB x ns = n at *
      generalize Opn.oneB x Opn.adpN = o at *
      generalize Opn.specialB x.space x.name = s at *
      clear hx
      go_wp2_with fail
      refine HNX.out.mono ?_
      rintro e w2 ⟨rfl, b2⟩
      have B2 := hid (hb.out.trans (b2.mono hb.out.size))
      clear HNX c0 c1 c2 c3 hb b2
      cases n with
      | true =>
        have HR2 := hid (show (k : Int) = R from hI.out)
        clear hI
        go_wp2
        go_ret
        exact ⟨by rw [← HR2.out]; rfl, B2.out⟩
      | false =>
        have hI := hid (show (if (s && !o) = true then -1 else Opn.itemI l ns k) = R from hI.out)
        have Q0 := hid (HE.out w2 B2.out)
        have BD := hid (show Below w.heap.size w w2.drew from B2.out.drew)
        cases s with
        | false =>
          have HN := hid (show Opn.itemI l ns k = R from hI.out)
          clear hI HOX
          obtain ⟨p0, p1, p2, p3⟩ := Q0.out
          go_wp2
          first
            | (go_region_with (first | (go_at_call 13; (with_reducible refine (HSX.out _).mono ?_); rintro e wk ⟨rfl, bk⟩; have BK := hid (BD.out.trans (bk.mono BD.out.size)); clear bk)))
            | fail
          all_goals
            clear p0 p1 p2 p3
            go_wp2
            go_roundg k
            case measure => omega
            case rel => exact ⟨k, rfl, by omega, by go_num, HN, BK⟩
        | true =>
          have HI := hid (show (if o = true then Opn.itemI l ns k else -1) = R by rw [← hI.out]; cases o <;> rfl)
          clear hI
          go_wp2
          first | (go_region_held3 (fun W => W.cell? ⟨blk, off + k * 4, none⟩ = some (.int .i64 x.id) ∧ W.cell? ⟨blk, off + k * 4 + 1, none⟩ = some (.int .u8 x.space) ∧ W.cell? ⟨blk, off + k * 4 + 2, none⟩ = some (.string (bs x.name)) ∧ W.cell? ⟨blk, off + k * 4 + 3, none⟩ = some (.int .u8 x.point)) (first | exact QC.out | exact QB.out | exact QA.out | exact Q0.out)
            (first
              | (go_at_call 13; (with_reducible refine (HSX.out _).mono ?_); rintro e wk ⟨rfl, bk⟩; have BK := hid (BD.out.trans (bk.mono BD.out.size)); have QA := hid (HE.out wk BK.out); have BL := hid (BK.out.alloc BK.out.size (.cells #[.string ⟨#[97, 100, 100, 114, 101, 115, 115]⟩, .string ⟨#[100, 105, 118]⟩, .string ⟨#[112]⟩] 9)); have QB := hid (HE.out _ BL.out); have HL := hid (isS_of_block (ls := Opn.adpN) (n := 3) rfl (heap_alloc_new wk (.cells #[.string ⟨#[97, 100, 100, 114, 101, 115, 115]⟩, .string ⟨#[100, 105, 118]⟩, .string ⟨#[112]⟩] 9)) rfl); clear bk)
              | (go_at_call 29; (refine (HOX.out _ _ HL.out).mono ?_); rintro e wl ⟨rfl, bl⟩; have BM := hid (BL.out.trans (bl.mono BL.out.size)); have QC := hid (HE.out wl BM.out); clear bl))) | fail
          all_goals
            clear QA QB QC HL BL BK Q0
            cases o with
            | true =>
              have HN := hid (show Opn.itemI l ns k = R from HI.out)
              clear HI
              go_wp2
              go_roundg k
              case measure => omega
              case rel => exact ⟨k, rfl, by omega, by go_num, HN, BM⟩
            | false =>
              have HR2 := hid (show -1 = R from HI.out)
              clear HI
              go_wp2
              go_ret
              exact ⟨by rw [← HR2.out]; rfl, BM.out⟩
end Go.Proofs.Ytolbohmalgklmaa
