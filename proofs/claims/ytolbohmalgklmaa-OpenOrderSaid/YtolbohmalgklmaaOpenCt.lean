/- Walks over slices.Index and slices.Contains of texts, as Go's own text has them; whether an element is one of some names, by the program. -/
import Derived.Test.YtolbohmalgklmaaOpenOne
namespace Go.Proofs.Ytolbohmalgklmaa
open Go.RowKit Go.Lib
set_option maxRecDepth 100000
set_option linter.unusedVariables false
set_option maxHeartbeats 2000000 in
theorem pindex_any (a : Option Addr) (len cap : Nat) (ls : List (List UInt8)) (x : List UInt8) (w : World) (h : IsS w a len ls) (hs : len ≤ 4294967296) (hlc : len ≤ cap) (hcm : cap ≤ 9223372036854775807) :
    Calls Try.prog 41 #[.slice a len cap, .string (bs x)] w fun e w' => (∃ r : Int, e = .returned (.int .i64 r) ∧ decide (0 ≤ r) = ls.contains x) ∧ w = w' := by
  have HH := hid h
  obtain ⟨X, hX⟩ : ∃ X, bs x = X := ⟨_, rfl⟩
  obtain ⟨c, hc⟩ : ∃ c, ls.contains x = c := ⟨_, rfl⟩
  rw [hX, hc]
  have HX := hid hX
  have HC := hid hc
  clear h hX hc
  go_enter Try.func41, Try.ntmps41
  go_wp2
  go_loopg [8] len (fun g iv wr => ∃ k : Nat, k + g = len ∧ iv = .int .i64 k ∧ Hid ((ls.take k).contains x = false) ∧ w = wr)
  case atStart => exact ⟨0, by omega, rfl, hid rfl, rfl⟩
  case round =>
    obtain ⟨k, hk, rfl, hI, rfl⟩ := hrel
    by_cases hlt : k < len
    · have d1 : decide (k < len) = true := decide_eq_true hlt
      have hltI : (k : Int) < (len : Int) := by omega
      obtain ⟨hll, h0 | ⟨blk, off, rfl, hat⟩⟩ := HH.out
      · omega
      have hkl : k < ls.length := by omega
      obtain ⟨l, hl⟩ : ∃ l, ls[k]? = some l := ⟨_, List.getElem?_eq_getElem hkl⟩
      have hcell : w.cell? ⟨blk, off + k, none⟩ = some (.string (bs l)) := hat k _ hl
      by_cases hp : l = x
      · have HR := hid (show c = true from HC.out.symm.trans <| List.contains_iff_mem.2 (by rw [← hp]; exact List.mem_of_getElem? hl))
        have he : (X.toList == (bs l).toList) = true := by rw [hp, HX.out]; exact beq_iff_eq.2 rfl
        generalize bs l = L at *
        clear hp hl hat hll hI
        go_wp2
        go_ret
        exact ⟨⟨_, rfl, by rw [HR.out]; exact decide_eq_true (by omega)⟩, rfl⟩
      · have he : (X.toList == (bs l).toList) = false := beq_eq_false_iff_ne.2 fun e => hp (bs_inj (HX.out ▸ e.symm))
        have HN := hid (os_next hI.out hl hp)
        generalize bs l = L at *
        clear hp hl hat hll hI
        go_wp2
        go_roundg (len - (k + 1))
        case measure => omega
        case rel => exact ⟨k + 1, by omega, by go_num, HN, rfl⟩
    · have d1 : decide (k < len) = false := decide_eq_false hlt
      have hltI : ¬ (k : Int) < (len : Int) := by omega
      have HR := hid (show c = false by rw [← HC.out, ← hI.out, List.take_of_length_le (by rw [HH.out.1]; omega)])
      clear hI
      go_wp2
      go_ret
      exact ⟨⟨_, rfl, by rw [HR.out]; rfl⟩, rfl⟩
theorem pcontains_any (a : Option Addr) (len cap : Nat) (ls : List (List UInt8)) (x : List UInt8) (w : World) (h : IsS w a len ls) (hs : len ≤ 4294967296) (hlc : len ≤ cap) (hcm : cap ≤ 9223372036854775807) :
    Calls Try.prog 32 #[.slice a len cap, .string (bs x)] w fun e w' => e = .returned (.bool (ls.contains x)) ∧ w = w' := by
  have HI := hid (pindex_any a len cap ls x w h hs hlc hcm)
  generalize bs x = X at *
  generalize ls.contains x = c at *
  clear h
  go_enter Try.func32, Try.ntmps32
  go_wp2_with fail
  refine HI.out.mono ?_
  rintro e w2 ⟨⟨r, rfl, hr⟩, rfl⟩
  clear HI
  go_wp2
  go_ret
  exact ⟨rfl, rfl⟩
set_option maxHeartbeats 2000000 in
theorem pone_any (i : Int) (sp pt : Nat) (nm : List UInt8) (a : Option Addr) (len cap : Nat) (ns : List (List UInt8)) (w : World) (h : IsS w a len ns) (hs : len ≤ 4294967296) (hlc : len ≤ cap) (hcm : cap ≤ 9223372036854775807) :
    Calls Try.prog 27 #[.agg #[.int .i64 i, .int .u8 sp, .string (bs nm), .int .u8 pt], .slice a len cap] w fun e w' => e = .returned (.bool (Opn.oneB ⟨i, sp, nm, pt⟩ ns)) ∧ Below w.heap.size w w' := by
  have HI := hid fun W (hb : Below w.heap.size w W) => pcontains_any a len cap ns nm W (h.below hb) hs hlc hcm
  obtain ⟨c, hc⟩ : ∃ c, ns.contains nm = c := ⟨_, rfl⟩
  have HR := hid (show Opn.oneB ⟨i, sp, nm, pt⟩ ns = (decide (sp = 0) && c) by rw [← hc]; rfl)
  rw [hc] at HI
  generalize Opn.oneB ⟨i, sp, nm, pt⟩ ns = R at *
  generalize bs nm = X at *
  clear h hc
  by_cases h0 : sp = 0
  · subst h0
    have al := hid ((Below.refl w.heap.size w).alloc (Nat.le_refl _) (.cells #[.int .i64 i, .int .u8 0, .string X, .int .u8 pt] 37))
    go_enter Try.func27, Try.ntmps27
    go_wp2_with fail
    refine (HI.out _ al.out).mono ?_
    rintro e w2 ⟨rfl, rfl⟩
    go_wp2
    go_ret
    exact ⟨ret_bool' (by rw [HR.out]; simp), al.out⟩
  · have d1 : decide (sp = 0) = false := decide_eq_false h0
    have al := hid ((Below.refl w.heap.size w).alloc (Nat.le_refl _) (.cells #[.int .i64 i, .int .u8 sp, .string X, .int .u8 pt] 37))
    go_enter Try.func27, Try.ntmps27
    go_wp2
    go_ret
    exact ⟨ret_bool' (by rw [HR.out, d1]; rfl), al.out⟩
end Go.Proofs.Ytolbohmalgklmaa
