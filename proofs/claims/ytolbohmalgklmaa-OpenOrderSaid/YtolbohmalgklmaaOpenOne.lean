/- Walks over the reference of layer 11: whether an element is one of some names; what is special. -/
import Derived.Test.YtolbohmalgklmaaOpenIn
import Derived.Test.YtolbohmalgklmaaWld
import Derived.Test.YtolbohmalgklmaaBlk
namespace Go.Proofs.Ytolbohmalgklmaa
open Go.RowKit Go.Lib
set_option maxRecDepth 100000
set_option linter.unusedVariables false
/-- An element, as it lies in memory. -/
def eCells (x : Opn.E) : Array Value := #[.int .i64 x.id, .int .u8 x.space, .string (bs x.name), .int .u8 x.point]
set_option maxHeartbeats 2000000 in
theorem rone_any (i : Int) (sp pt : Nat) (nm : List UInt8) (a : Option Addr) (len cap : Nat) (ns : List (List UInt8)) (w : World) (h : IsS w a len ns) (hs : len ≤ 4294967296) (hlc : len ≤ cap) (hcm : cap ≤ 9223372036854775807) :
    Calls Try.prog 29 #[.agg #[.int .i64 i, .int .u8 sp, .string (bs nm), .int .u8 pt], .slice a len cap] w fun e w' => e = .returned (.bool (Opn.oneB ⟨i, sp, nm, pt⟩ ns)) ∧ Below w.heap.size w w' := by
  have HI := hid fun W (hb : Below w.heap.size w W) => oin_any a len cap ns nm W (h.below hb) hs hlc hcm
  obtain ⟨c, hc⟩ : ∃ c, ns.contains nm = c := ⟨_, rfl⟩
  have HR := hid (show Opn.oneB ⟨i, sp, nm, pt⟩ ns = (decide (sp = 0) && c) by rw [← hc]; rfl)
  rw [hc] at HI
  generalize Opn.oneB ⟨i, sp, nm, pt⟩ ns = R at *
  generalize bs nm = X at *
  clear h hc
  by_cases h0 : sp = 0
  · subst h0
    have al := hid ((Below.refl w.heap.size w).alloc (Nat.le_refl _) (.cells #[.int .i64 i, .int .u8 0, .string X, .int .u8 pt] 37))
    go_enter Try.func29, Try.ntmps29
    go_wp2_with fail
    refine (HI.out _ al.out).mono ?_
    rintro e w2 ⟨rfl, rfl⟩
    go_wp2
    go_ret
    exact ⟨ret_bool' (by rw [HR.out]; simp), al.out⟩
  · have d1 : decide (sp = 0) = false := decide_eq_false h0
    have al := hid ((Below.refl w.heap.size w).alloc (Nat.le_refl _) (.cells #[.int .i64 i, .int .u8 sp, .string X, .int .u8 pt] 37))
    go_enter Try.func29, Try.ntmps29
    go_wp2
    go_ret
    exact ⟨ret_bool' (by rw [HR.out, d1]; rfl), al.out⟩
set_option maxHeartbeats 16000000 in
theorem rspec_any (sp : Nat) (nm : List UInt8) (w : World) (hsp : sp < 256) :
    Calls Try.prog 13 #[.int .u8 sp, .string (bs nm)] w fun e w' => e = .returned (.bool (Opn.specialB sp nm)) ∧ Below w.heap.size w w' := by
  have H0 := hid fun (a : Addr) W (h : IsS W (some a) 84 Opn.specH) => oin_any (some a) 84 84 Opn.specH nm W h (by omega) (by omega) (by omega)
  have H1 := hid fun (a : Addr) W (h : IsS W (some a) 3 Opn.specS) => oin_any (some a) 3 3 Opn.specS nm W h (by omega) (by omega) (by omega)
  have H2 := hid fun (a : Addr) W (h : IsS W (some a) 6 Opn.specM) => oin_any (some a) 6 6 Opn.specM nm W h (by omega) (by omega) (by omega)
  have HR := hid (show Opn.specialB sp nm = if sp = 0 then Opn.specH.contains nm else if sp = 2 then Opn.specM.contains nm else if sp = 1 then Opn.specS.contains nm else false from rfl)
  generalize Opn.specialB sp nm = R at *
  generalize bs nm = X at *
  by_cases h0 : sp = 0
  · subst h0
    generalize Opn.specH.contains nm = c at *
    go_enter Try.func13, Try.ntmps13
    go_wp2_with fail
    refine (H0.out _ _ (isS_of_block rfl (heap_alloc_new w _) rfl)).mono ?_
    rintro e w2 ⟨rfl, rfl⟩
    go_wp2
    go_ret
    exact ⟨ret_bool' (by rw [HR.out]; simp), (Below.refl _ _).alloc (Nat.le_refl _) _⟩
  · have d1 : decide (sp = 0) = false := decide_eq_false h0
    by_cases h2 : sp = 2
    · subst h2
      generalize Opn.specM.contains nm = c at *
      go_enter Try.func13, Try.ntmps13
      go_wp2_with fail
      refine (H2.out _ _ (isS_of_block rfl (heap_alloc_new w _) rfl)).mono ?_
      rintro e w2 ⟨rfl, rfl⟩
      go_wp2
      go_ret
      exact ⟨ret_bool' (by rw [HR.out]; simp), (Below.refl _ _).alloc (Nat.le_refl _) _⟩
    · have d2 : decide (sp = 2) = false := decide_eq_false h2
      by_cases h1 : sp = 1
      · subst h1
        generalize Opn.specS.contains nm = c at *
        go_enter Try.func13, Try.ntmps13
        go_wp2_with fail
        refine (H1.out _ _ (isS_of_block rfl (heap_alloc_new w _) rfl)).mono ?_
        rintro e w2 ⟨rfl, rfl⟩
        go_wp2
        go_ret
        exact ⟨ret_bool' (by rw [HR.out]; simp), (Below.refl _ _).alloc (Nat.le_refl _) _⟩
      · have d3 : decide (sp = 1) = false := decide_eq_false h1
        go_enter Try.func13, Try.ntmps13
        go_wp2
        go_ret
        exact ⟨ret_bool' (by rw [HR.out, if_neg h0, if_neg h2, if_neg h1]), Below.refl _ _⟩
end Go.Proofs.Ytolbohmalgklmaa
