/- Walks over the reference of layer 11: whether a text is in a list, what is special, what formats. -/
import Derived.Test.YtolbohmalgklmaaSlI
import Derived.Test.YtolbohmalgklmaaPairs
import Derived.Test.YtolbohmalgklmaaOpenPl
import Derived.Deep.LoopGhost
import Derived.IntWalk
import Derived.BigCall
namespace Go.Proofs.Ytolbohmalgklmaa
open Go.RowKit Go.Lib
set_option maxRecDepth 100000
set_option linter.unusedVariables false

/-- A row of texts that lies whole in a block. -/
theorem isS_of_block {W : World} {g : Nat} {ls : List (List UInt8)} {C : Array Value} {t : TypeId} {fr : Nat × Nat} {n : Nat} (hn : ls.length = n) (h : W.heap[g]? = some (.cells C t fr)) (hC : C.toList = strsL ls) : IsS W (some ⟨g, 0, none⟩) n ls := by
  refine ⟨hn, .inr ⟨g, 0, rfl, fun i l hi => ?_⟩⟩
  have h1 : C[i]? = some (.string ⟨l.toArray⟩) := by rw [← Array.getElem?_toList, hC, strsL_get, hi]; rfl
  rw [Nat.zero_add]
  simp only [World.cell?, h]
  simpa using h1
theorem os_next {ls : List (List UInt8)} {k : Nat} {z v : List UInt8} (h : (ls.take k).contains v = false) (hz : ls[k]? = some z) (hne : z ≠ v) : (ls.take (k + 1)).contains v = false := by
  rw [List.take_add_one, hz]
  cases hc : (ls.take k ++ [z]).contains v with
  | false => exact hc
  | true =>
    rcases List.mem_append.1 (List.contains_iff_mem.1 hc) with h1 | h1
    · rw [List.contains_iff_mem.2 h1] at h; cases h
    · exact absurd (List.mem_singleton.1 h1).symm hne
set_option maxHeartbeats 1000000 in
theorem oin_any (a : Option Addr) (len cap : Nat) (ls : List (List UInt8)) (x : List UInt8) (w : World) (h : IsS w a len ls) (hs : len ≤ 4294967296) (hlc : len ≤ cap) (hcm : cap ≤ 9223372036854775807) :
    Calls Try.prog 33 #[.slice a len cap, .string (bs x)] w fun e w' => e = .returned (.bool (ls.contains x)) ∧ w = w' := by
  have HH := hid h
  obtain ⟨X, hX⟩ : ∃ X, bs x = X := ⟨_, rfl⟩
  obtain ⟨c, hc⟩ : ∃ c, ls.contains x = c := ⟨_, rfl⟩
  rw [hX, hc]
  have HX := hid hX
  have HC := hid hc
  clear h hX hc
  go_enter Try.func33, Try.ntmps33
  go_wp2
  go_loopg [5] len (fun g iv wr => ∃ k : Nat, k + g = len ∧ iv = .int .i64 k ∧ Hid ((ls.take k).contains x = false) ∧ w = wr)
  case atStart => exact ⟨0, by omega, rfl, hid rfl, rfl⟩
  case round =>
    obtain ⟨k, hk, rfl, hI, rfl⟩ := hrel
    by_cases hlt : k < len
    · have d1 : decide (k < len) = true := decide_eq_true hlt
      have hltI : (k : Int) < (len : Int) := by omega
      obtain ⟨hll, h0 | ⟨blk, off, rfl, hat⟩⟩ := HH.out
      · omega
      have hkl : k < ls.length := by omega
      obtain ⟨l, hl⟩ : ∃ l, ls[k]? = some l := ⟨_, List.getElem?_eq_getElem hkl⟩
      have hcell : w.cell? ⟨blk, off + k, none⟩ = some (.string (bs l)) := hat k _ hl
      by_cases hp : l = x
      · have HR := hid (show c = true from HC.out.symm.trans <| List.contains_iff_mem.2 (by rw [← hp]; exact List.mem_of_getElem? hl))
        have he : ((bs l).toList == X.toList) = true := by rw [hp, HX.out]; exact beq_iff_eq.2 rfl
        generalize bs l = L at *
        clear hp hl hat hll hI
        go_wp2
        go_ret
        exact ⟨ret_bool' HR.out.symm, rfl⟩
      · have he : ((bs l).toList == X.toList) = false := beq_eq_false_iff_ne.2 fun e => hp (bs_inj (HX.out ▸ e))
        have HN := hid (os_next hI.out hl hp)
        generalize bs l = L at *
        clear hp hl hat hll hI
        go_wp2
        go_roundg (len - (k + 1))
        case measure => omega
        case rel => exact ⟨k + 1, by omega, by go_num, HN, rfl⟩
    · have d1 : decide (k < len) = false := decide_eq_false hlt
      have hltI : ¬ (k : Int) < (len : Int) := by omega
      have HR := hid (show c = false by rw [← HC.out, ← hI.out, List.take_of_length_le (by rw [HH.out.1]; omega)])
      clear hI
      go_wp2
      go_ret
      exact ⟨ret_bool' HR.out.symm, rfl⟩
theorem rformat_any (x : List UInt8) (w : World) :
    Calls Try.prog 15 #[.string (bs x)] w fun e w' => e = .returned (.bool (Opn.formatB x)) ∧ Below w.heap.size w w' := by
  have HI := fun (a : Addr) W (h : IsS W (some a) 14 Opn.fmtN) => oin_any (some a) 14 14 Opn.fmtN x W h (by omega) (by omega) (by omega)
  rw [show Opn.fmtN.contains x = Opn.formatB x from rfl] at HI
  generalize bs x = X at *
  generalize Opn.formatB x = c at *
  have HI := hid HI
  go_enter Try.func15, Try.ntmps15
  go_wp2_with fail
  refine (HI.out _ _ (isS_of_block rfl (heap_alloc_new w _) rfl)).mono ?_
  rintro e w2 ⟨rfl, rfl⟩
  go_wp2
  go_ret
  exact ⟨rfl, (Below.refl _ _).alloc (Nat.le_refl _) _⟩
end Go.Proofs.Ytolbohmalgklmaa
