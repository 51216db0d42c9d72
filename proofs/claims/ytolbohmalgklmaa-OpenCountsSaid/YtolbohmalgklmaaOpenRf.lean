/- Walks over the reference of layer 11: In, Implied, Clear, Item. -/
import Derived.Test.YtolbohmalgklmaaOpenBe
import Derived.Test.YtolbohmalgklmaaOpenPr
namespace Go.Proofs.Ytolbohmalgklmaa
open Go.RowKit Go.Lib
set_option maxRecDepth 100000
set_option linter.unusedVariables false
theorem rone_e (x : Opn.E) {b : Option Addr} {bn bc : Nat} {ns : List (List UInt8)} {w : World} (h : NamesIn b bn bc ns w) :
    Calls Try.prog 29 #[.agg #[.int .i64 x.id, .int .u8 x.space, .string (bs x.name), .int .u8 x.point], .slice b bn bc] w fun e w' => e = .returned (.bool (Opn.oneB x ns)) ∧ Below w.heap.size w w' :=
  rone_any x.id x.space x.point x.name b bn bc ns w h.isS h.few h.cap h.cap2
theorem elem_at {w : World} {blk off : Nat} {len : Nat} {l : List Opn.E} (h : IsE w (some ⟨blk, off, none⟩) len l) {k : Nat} {x : Opn.E} (hx : l[k]? = some x) :
    w.cell? ⟨blk, off + k * 4, none⟩ = some (.int .i64 x.id) ∧ w.cell? ⟨blk, off + k * 4 + 1, none⟩ = some (.int .u8 x.space) ∧ w.cell? ⟨blk, off + k * 4 + 2, none⟩ = some (.string (bs x.name)) ∧ w.cell? ⟨blk, off + k * 4 + 3, none⟩ = some (.int .u8 x.point) := by
  obtain ⟨hl, h0 | ⟨b', o', e, hat⟩⟩ := h
  · have := (List.getElem?_eq_some_iff.1 hx).1
    omega
  · cases e
    exact hat k x hx
set_option maxHeartbeats 8000000 in
theorem rin_any (a : Option Addr) (len cap : Nat) (l : List Opn.E) (sc : Nat) (b : Option Addr) (bn bc : Nat) (ns : List (List UInt8)) (w : World) (h : ElemsIn a len cap l w) (g : NamesIn b bn bc ns w) (hsc : sc < 256) :
    Calls Try.prog 11 #[.slice a len cap, .int .u8 sc, .slice b bn bc] w fun e w' => e = .returned (.bool (Opn.inB l sc ns len)) ∧ Below w.heap.size w w' := by
  have HH := hid h.isE
  have HO := hid fun (x : Opn.E) W (hb : Below w.heap.size w W) => rone_e x (g.below hb)
  have HB := hid fun (x : Opn.E) (hx : x ∈ l) W => rbound_any x sc W (h.sp x hx) hsc
  obtain ⟨R, hR⟩ : ∃ R, Opn.inB l sc ns len = R := ⟨_, rfl⟩
  rw [hR]
  have HR := hid hR
  have hf := h.few
  clear h g hR
  go_enter Try.func11, Try.ntmps11
  go_wp2
  go_loopg [7] len (fun g iv wr => ∃ k : Nat, k = g ∧ k ≤ len ∧ iv = .int .i64 ((k : Int) - 1) ∧ Hid (Opn.inB l sc ns k = R) ∧ Hid (Below w.heap.size w wr))
  case atStart => exact ⟨len, rfl, Nat.le_refl _, by go_num, HR, hid (Below.refl _ _)⟩
  case round =>
    obtain ⟨kk, hk, hg, rfl, hI, hb⟩ := hrel
    by_cases hlt : kk = 0
    · subst hlt
      have HR2 := hid (show false = R from hI.out)
      clear hI
      go_wp2
      go_ret
      exact ⟨ret_bool' HR2.out, hb.out⟩
    · obtain ⟨k, rfl⟩ : ∃ k, kk = k + 1 := ⟨kk - 1, by omega⟩
      have d0 : decide ((0 : Int) ≤ (k : Int)) = true := decide_eq_true (by omega)
      obtain ⟨hll, h0 | ⟨blk, off, rfl, _⟩⟩ := HH.out
      · omega
      obtain ⟨x, hx⟩ : ∃ x, l[k]? = some x := ⟨_, List.getElem?_eq_getElem (by omega)⟩
      obtain ⟨c0, c1, c2, c3⟩ := elem_at (HH.out.below hb.out) hx
      have HE := hid fun W (hw : Below w.heap.size w W) => elem_at (HH.out.below hw) hx
      have kk1 : ((k + 1 : Nat) : Int) - 1 = (k : Int) := by omega
      rw [kk1]
      have hkl : (k : Int) < (len : Int) := by omega
      have hkl2 : k < len := by omega
      rw [Opn.inB_step hx] at hI
      have HOX := hid (HO.out x wr hb.out)
      have HBX := hid (HB.out x (List.mem_of_getElem? hx))
      generalize Opn.oneB x ns = o at *
      generalize Opn.boundB x sc = q at *
      clear hx
      go_wp2_with fail
      refine HOX.out.mono ?_
      rintro e w2 ⟨rfl, b2⟩
      have B2 := hid (hb.out.trans (b2.mono hb.out.size))
      clear HOX c0 c1 c2 c3 hb b2
      cases o with
      | true =>
        have HR2 := hid (show true = R from hI.out)
        clear hI
        go_wp2
        go_ret
        exact ⟨ret_bool' HR2.out, B2.out⟩
      | false =>
        obtain ⟨c0, c1, c2, c3⟩ := HE.out w2 B2.out
        have hI := hid (show (if q = true then false else Opn.inB l sc ns k) = R from hI.out)
        go_wp2_with fail
        refine (HBX.out w2).mono ?_
        rintro e w3 ⟨rfl, b3⟩
        have B3 := hid (B2.out.trans (b3.mono B2.out.size))
        clear b3 c0 c1 c2 c3 HBX
        cases q with
        | true =>
          have HR2 := hid (show false = R from hI.out)
          clear hI
          go_wp2
          go_ret
          exact ⟨ret_bool' HR2.out, B3.out⟩
        | false =>
          have HN := hid (show Opn.inB l sc ns k = R from hI.out)
          clear hI
          go_wp2
          go_roundg k
          case measure => omega
          case rel => exact ⟨k, rfl, by omega, by go_num, HN, B3⟩
set_option maxHeartbeats 8000000 in
theorem rimplied_any (a : Option Addr) (len cap : Nat) (l : List Opn.E) (ex : List UInt8) (w : World) (h : ElemsIn a len cap l w) :
    Calls Try.prog 17 #[.slice a len cap, .string (bs ex)] w fun e w' => e = .returned (.int .i64 (Opn.impliedN l ex len)) ∧ Below w.heap.size w w' := by
  have HH := hid h.isE
  have HO := hid fun (x : Opn.E) (a : Addr) W (h : IsS W (some a) 10 Opn.impN) => rone_e x (b := some a) (bn := 10) (bc := 10) (ns := Opn.impN) (w := W) ⟨h, by omega, by omega, by omega⟩
  obtain ⟨R, hR⟩ : ∃ R, Opn.impliedN l ex len = R := ⟨_, rfl⟩
  rw [hR]
  have HR := hid hR
  have hf := h.few
  clear h hR
  obtain ⟨X, hX⟩ : ∃ X, bs ex = X := ⟨_, rfl⟩
  rw [hX]
  have HX := hid hX
  clear hX
  go_enter Try.func17, Try.ntmps17
  go_wp2
  go_loopg [5] len (fun g iv wr => ∃ k : Nat, k = g ∧ k ≤ len ∧ iv = .int .i64 (k : Int) ∧ Hid (Opn.impliedN l ex k = R) ∧ Hid (Below w.heap.size w wr))
  case atStart => exact ⟨len, rfl, Nat.le_refl _, by go_num, HR, hid (Below.refl _ _)⟩
  case round =>
    obtain ⟨kk, hk, hg, rfl, hI, hb⟩ := hrel
    subst hk
    by_cases hlt : kk = 0
    · subst hlt
      have HR2 := hid (show 0 = R from hI.out)
      clear hI
      go_wp2
      go_ret
      exact ⟨by rw [← HR2.out]; rfl, hb.out⟩
    · have d0 : decide ((0 : Int) < (kk : Int)) = true := decide_eq_true (by omega)
      obtain ⟨hll, h0 | ⟨blk, off, rfl, _⟩⟩ := HH.out
      · omega
      obtain ⟨x, hx⟩ : ∃ x, l[kk - 1]? = some x := ⟨_, List.getElem?_eq_getElem (by omega)⟩
      obtain ⟨c0, c1, c2, c3⟩ := elem_at (HH.out.below hb.out) hx
      have hkl : (kk : Int) - 1 < (len : Int) := by omega
      have hk0 : (0 : Int) ≤ (kk : Int) - 1 := by omega
      have ek : kk - 1 + 1 = kk := by omega
      have zk : ((kk : Int) - 1).toNat = kk - 1 := by omega
      have hI := hid (show Opn.impliedN l ex (kk - 1 + 1) = R by rw [ek]; exact hI.out)
      rw [Opn.impliedN_step hx, ek] at hI
      have HOX := hid (HO.out x)
      generalize Opn.oneB x Opn.impN = o at *
      by_cases hn : x.name = ex
      · have he : ((bs x.name).toList == X.toList) = true := by rw [hn, HX.out]; exact beq_iff_eq.2 rfl
        have HR2 := hid (show kk = R by rw [← hI.out, if_neg (fun z => z.1 hn)])
        clear hI hx hn
        go_wp2
        go_ret
        exact ⟨by rw [← HR2.out]; rfl, hb.out⟩
      · have he : ((bs x.name).toList == X.toList) = false := beq_eq_false_iff_ne.2 fun e => hn (bs_inj (e.trans (by rw [HX.out])))
        have HN := hid (isS_of_block (ls := Opn.impN) (n := 10) rfl (heap_alloc_new wr (.cells #[.string ⟨#[100, 100]⟩, .string ⟨#[100, 116]⟩, .string ⟨#[108, 105]⟩, .string ⟨#[111, 112, 116, 103, 114, 111, 117, 112]⟩, .string ⟨#[111, 112, 116, 105, 111, 110]⟩, .string ⟨#[112]⟩, .string ⟨#[114, 98]⟩, .string ⟨#[114, 112]⟩, .string ⟨#[114, 116]⟩, .string ⟨#[114, 116, 99]⟩] 9)) rfl)
        have hI := hid (show (if o = true then Opn.impliedN l ex (kk - 1) else kk) = R by rw [← hI.out]; simp [hn])
        clear hx hn
        go_wp2_with fail
        refine (HOX.out _ _ HN.out).mono ?_
        rintro e w2 ⟨rfl, b2⟩
        have B2 := hid ((hb.out.alloc hb.out.size (.cells #[.string ⟨#[100, 100]⟩, .string ⟨#[100, 116]⟩, .string ⟨#[108, 105]⟩, .string ⟨#[111, 112, 116, 103, 114, 111, 117, 112]⟩, .string ⟨#[111, 112, 116, 105, 111, 110]⟩, .string ⟨#[112]⟩, .string ⟨#[114, 98]⟩, .string ⟨#[114, 112]⟩, .string ⟨#[114, 116]⟩, .string ⟨#[114, 116, 99]⟩] 9)).trans (b2.mono (hb.out.alloc hb.out.size _).size))
        clear HOX HN c0 c1 c2 c3 hb b2
        cases o with
        | true =>
          have HN := hid (show Opn.impliedN l ex (kk - 1) = R from hI.out)
          clear hI
          go_wp2
          go_roundg (kk - 1)
          case measure => omega
          case rel => exact ⟨kk - 1, rfl, by omega, by go_num, HN, B2⟩
        | false =>
          have HR2 := hid (show kk = R from hI.out)
          clear hI
          go_wp2
          go_ret
          exact ⟨by rw [← HR2.out]; rfl, B2.out⟩
set_option maxHeartbeats 8000000 in
theorem rclear_any (a : Option Addr) (len cap : Nat) (l : List Opn.E) (b : Option Addr) (bn bc : Nat) (ns : List (List UInt8)) (w : World) (h : ElemsIn a len cap l w) (g : NamesIn b bn bc ns w) :
    Calls Try.prog 21 #[.slice a len cap, .slice b bn bc] w fun e w' => e = .returned (.int .i64 (Opn.clearN l ns len)) ∧ Below w.heap.size w w' := by
  have HH := hid h.isE
  have HN := hid fun (x : Opn.E) W (hb : Below w.heap.size w W) => rone_e x (g.below hb)
  have HO := hid fun (x : Opn.E) (a : Addr) W (h : IsS W (some a) 2 Opn.endN) => rone_e x (b := some a) (bn := 2) (bc := 2) (ns := Opn.endN) (w := W) ⟨h, by omega, by omega, by omega⟩
  obtain ⟨R, hR⟩ : ∃ R, Opn.clearN l ns len = R := ⟨_, rfl⟩
  rw [hR]
  have HR := hid hR
  have hf := h.few
  clear h g hR
  go_enter Try.func21, Try.ntmps21
  go_wp2
  go_loopg [5] len (fun g iv wr => ∃ k : Nat, k = g ∧ k ≤ len ∧ iv = .int .i64 (k : Int) ∧ Hid (Opn.clearN l ns k = R) ∧ Hid (Below w.heap.size w wr))
  case atStart => exact ⟨len, rfl, Nat.le_refl _, by go_num, HR, hid (Below.refl _ _)⟩
  case round =>
    obtain ⟨kk, hk, hg, rfl, hI, hb⟩ := hrel
    subst hk
    by_cases hlt : kk = 0
    · subst hlt
      have HR2 := hid (show 0 = R from hI.out)
      clear hI
      go_wp2
      go_ret
      exact ⟨by rw [← HR2.out]; rfl, hb.out⟩
    · have d0 : decide ((0 : Int) < (kk : Int)) = true := decide_eq_true (by omega)
      obtain ⟨hll, h0 | ⟨blk, off, rfl, _⟩⟩ := HH.out
      · omega
      obtain ⟨x, hx⟩ : ∃ x, l[kk - 1]? = some x := ⟨_, List.getElem?_eq_getElem (by omega)⟩
      obtain ⟨c0, c1, c2, c3⟩ := elem_at (HH.out.below hb.out) hx
      have HE := hid fun W (hw : Below w.heap.size w W) => elem_at (HH.out.below hw) hx
      have hkl : (kk : Int) - 1 < (len : Int) := by omega
      have hk0 : (0 : Int) ≤ (kk : Int) - 1 := by omega
      have ek : kk - 1 + 1 = kk := by omega
      have zk : ((kk : Int) - 1).toNat = kk - 1 := by omega
      have hI := hid (show Opn.clearN l ns (kk - 1 + 1) = R by rw [ek]; exact hI.out)
      rw [Opn.clearN_step hx, ek] at hI
      have HNX := hid (HN.out x wr hb.out)
      have HOX := hid (HO.out x)
      generalize Opn.oneB x ns = n at *
      generalize Opn.oneB x Opn.endN = o at *
      clear hx
      go_wp2_with fail
      refine HNX.out.mono ?_
      rintro e w2 ⟨rfl, b2⟩
      have B2 := hid (hb.out.trans (b2.mono hb.out.size))
      clear HNX c0 c1 c2 c3 hb b2
      cases n with
      | true =>
        have HR2 := hid (show kk = R from hI.out)
        clear hI
        go_wp2
        go_ret
        exact ⟨by rw [← HR2.out]; rfl, B2.out⟩
      | false =>
        obtain ⟨c0, c1, c2, c3⟩ := HE.out w2 B2.out
        have hI := hid (show (if o = false then Opn.clearN l ns (kk - 1) else kk) = R by rw [← hI.out]; simp)
        have HL := hid (isS_of_block (ls := Opn.endN) (n := 2) rfl (heap_alloc_new w2 (.cells #[.string ⟨#[104, 116, 109, 108]⟩, .string ⟨#[116, 101, 109, 112, 108, 97, 116, 101]⟩] 9)) rfl)
        go_wp2_with fail
        refine (HOX.out _ _ HL.out).mono ?_
        rintro e w3 ⟨rfl, b3⟩
        have B3 := hid ((B2.out.alloc B2.out.size (.cells #[.string ⟨#[104, 116, 109, 108]⟩, .string ⟨#[116, 101, 109, 112, 108, 97, 116, 101]⟩] 9)).trans (b3.mono (B2.out.alloc B2.out.size _).size))
        clear b3 c0 c1 c2 c3 HL HOX
        cases o with
        | true =>
          have HR2 := hid (show kk = R from hI.out)
          clear hI
          go_wp2
          go_ret
          exact ⟨by rw [← HR2.out]; rfl, B3.out⟩
        | false =>
          have HN := hid (show Opn.clearN l ns (kk - 1) = R from hI.out)
          clear hI
          go_wp2
          go_roundg (kk - 1)
          case measure => omega
          case rel => exact ⟨kk - 1, rfl, by omega, by go_num, HN, B3⟩
end Go.Proofs.Ytolbohmalgklmaa
