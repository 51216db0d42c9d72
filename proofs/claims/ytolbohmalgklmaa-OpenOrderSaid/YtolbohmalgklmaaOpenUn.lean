/- Walks over the reference of layer 11: a list of elements in memory; Until. -/
import Derived.Test.YtolbohmalgklmaaOpenBd
namespace Go.Proofs.Ytolbohmalgklmaa
open Go.RowKit Go.Lib
set_option maxRecDepth 100000
set_option linter.unusedVariables false
/-- A list of elements in memory. -/
def IsE (w : World) (a : Option Addr) (len : Nat) (l : List Opn.E) : Prop :=
  l.length = len ∧ (len = 0 ∨ ∃ b off, a = some ⟨b, off, none⟩ ∧ ∀ i x, l[i]? = some x → w.cell? ⟨b, off + i * 4, none⟩ = some (.int .i64 x.id) ∧ w.cell? ⟨b, off + i * 4 + 1, none⟩ = some (.int .u8 x.space) ∧
    w.cell? ⟨b, off + i * 4 + 2, none⟩ = some (.string (bs x.name)) ∧ w.cell? ⟨b, off + i * 4 + 3, none⟩ = some (.int .u8 x.point))
theorem IsE.below {w w' : World} {a : Option Addr} {len : Nat} {l : List Opn.E} (h : IsE w a len l) (hb : Below w.heap.size w w') : IsE w' a len l := by
  refine ⟨h.1, h.2.elim .inl fun ⟨b, off, e, hat⟩ => .inr ⟨b, off, e, fun i x hi => ?_⟩⟩
  have up : ∀ {p : Addr} {v : Value}, w.cell? p = some v → w'.cell? p = some v := fun hc => (hb.cell (World.block_lt_of_cell? _ _ hc)).trans hc
  obtain ⟨h0, h1, h2, h3⟩ := hat i x hi
  exact ⟨up h0, up h1, up h2, up h3⟩
set_option maxHeartbeats 4000000 in
theorem runtil_any (a : Option Addr) (len cap : Nat) (l : List Opn.E) (b : Option Addr) (bn bc : Nat) (ns : List (List UInt8)) (w : World) (h : IsE w a len l) (hl : len ≤ 4294967296) (g : IsS w b bn ns) (hs : bn ≤ 4294967296) (hlc : bn ≤ bc) (hcm : bc ≤ 9223372036854775807) :
    Calls Try.prog 19 #[.slice a len cap, .slice b bn bc] w fun e w' => e = .returned (.int .i64 (Opn.untilI l ns len)) ∧ Below w.heap.size w w' := by
  have HH := hid h
  have HO := hid fun (x : Opn.E) W (hb : Below w.heap.size w W) => rone_any x.id x.space x.point x.name b bn bc ns W (g.below hb) hs hlc hcm
  obtain ⟨R, hR⟩ : ∃ R, Opn.untilI l ns len = R := ⟨_, rfl⟩
  rw [hR]
  have HR := hid hR
  clear h g hR
  go_enter Try.func19, Try.ntmps19
  go_wp2
  go_loopg [5] len (fun g iv wr => ∃ k : Nat, k = g ∧ k ≤ len ∧ iv = .int .i64 ((k : Int) - 1) ∧ Hid (Opn.untilI l ns k = R) ∧ Hid (Below w.heap.size w wr))
  case atStart => exact ⟨len, rfl, Nat.le_refl _, by go_num, HR, hid (Below.refl _ _)⟩
  case round =>
    obtain ⟨kk, hk, hg, rfl, hI, hb⟩ := hrel
    by_cases hlt : kk = 0
    · subst hlt
      have HR2 := hid (show (-1 : Int) = R from hI.out)
      clear hI
      go_wp2
      go_ret
      exact ⟨by rw [← HR2.out]; rfl, hb.out⟩
    · obtain ⟨k, rfl⟩ : ∃ k, kk = k + 1 := ⟨kk - 1, by omega⟩
      have d0 : decide ((0 : Int) ≤ (k : Int)) = true := decide_eq_true (by omega)
      obtain ⟨hll, h0 | ⟨blk, off, rfl, hat⟩⟩ := HH.out
      · omega
      obtain ⟨x, hx⟩ : ∃ x, l[k]? = some x := ⟨_, List.getElem?_eq_getElem (by omega)⟩
      obtain ⟨x0, x1, x2, x3⟩ := hat k x hx
      have HX := hid hx
      have HAT := hid hat
      clear hat hx
      have c0 := (hb.out.cell (World.block_lt_of_cell? _ _ x0)).trans x0
      have c1 := (hb.out.cell (World.block_lt_of_cell? _ _ x1)).trans x1
      have c2 := (hb.out.cell (World.block_lt_of_cell? _ _ x2)).trans x2
      have c3 := (hb.out.cell (World.block_lt_of_cell? _ _ x3)).trans x3
      clear x0 x1 x2 x3
      have kk1 : ((k + 1 : Nat) : Int) - 1 = (k : Int) := by omega
      rw [kk1]
      have hkl : (k : Int) < (len : Int) := by omega
      have hkl2 : k < len := by omega
      rw [Opn.untilI_step HX.out] at hI
      have HOX := hid (HO.out x wr hb.out)
      obtain ⟨o, ho⟩ : ∃ o, Opn.oneB x ns = o := ⟨_, rfl⟩
      have HOX : Hid (Calls Try.prog 29 #[.agg #[.int .i64 x.id, .int .u8 x.space, .string (bs x.name), .int .u8 x.point], .slice b bn bc] wr fun e w' => e = .returned (.bool o) ∧ Below wr.heap.size wr w') := hid (ho ▸ HOX.out)
      rw [ho] at hI
      go_wp2_with fail
      refine HOX.out.mono ?_
      rintro e w2 ⟨rfl, b2⟩
      have B2 := hid (hb.out.trans (b2.mono hb.out.size))
      clear HOX ho c0 c1 c2 c3 hb b2
      cases o with
      | true =>
        have HR2 := hid (show (k : Int) = R from hI.out)
        clear hI
        go_wp2
        go_ret
        exact ⟨by rw [← HR2.out]; rfl, B2.out⟩
      | false =>
        have HN := hid (show Opn.untilI l ns k = R from hI.out)
        clear hI
        go_wp2
        go_roundg k
        case measure => omega
        case rel => exact ⟨k, rfl, by omega, by go_num, HN, B2⟩
end Go.Proofs.Ytolbohmalgklmaa
