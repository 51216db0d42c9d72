/- Lists of texts, and of numbers of sixteen bits, that came in, as the walks take them. -/
import Derived.Test.YtojmffpkjnpnlaaDoorSlS
import Derived.ProofKit
import Derived.OpenShut
import Derived.ChangeOld
import Derived.SliceStrings
namespace Go.Proofs.YtojmffpkjnpnlaaDoor
open Go.ChangeShapes Go.WideShapes Go.ChangeAt Go.RowKit Go.Lib
set_option linter.unusedVariables false

theorem isS_of_strs {W : World} {x : Addr} {len cap : Nat} {ss : List ByteArray} (hl : len ≤ cap) (hz : ss.length = cap) (hcell : ∀ i, i < ss.length → W.cell? (x.add i) = some (.string (ss.getD i ByteArray.empty))) :
    IsS W (some x) len ((ss.take len).map fun s => s.data.toList) := by
  refine ⟨by simp; omega, ?_⟩
  by_cases h0 : len = 0
  · exact .inl h0
  · right
    obtain ⟨b, off, spot⟩ := x
    have hc := hcell 0 (by omega)
    have hspot : spot = none := by simpa [Addr.add] using World.cell?_spot hc
    subst hspot
    refine ⟨b, off, rfl, fun i l hi => ?_⟩
    rw [List.getElem?_map, Option.map_eq_some_iff] at hi
    obtain ⟨s, hs, rfl⟩ := hi
    have hi' : i < len := by
      have := (List.getElem?_eq_some_iff.1 hs).1
      rw [List.length_take] at this
      omega
    rw [List.getElem?_take_of_lt hi'] at hs
    have h1 := hcell i (by omega)
    rw [addr_add, List.getD_eq_getElem?_getD, hs] at h1
    exact h1
/-- A list of numbers of sixteen bits. -/
def IsU (w : World) (a : Option Addr) (len : Nat) (zs : List Nat) : Prop :=
  zs.length = len ∧ (∀ z ∈ zs, z < 65536) ∧ (len = 0 ∨ ∃ b off, a = some ⟨b, off, none⟩ ∧ ∀ i z, zs[i]? = some z → w.cell? ⟨b, off + i, none⟩ = some (.int .u16 (z : Nat)))
theorem IsU.below {w w' : World} {a : Option Addr} {len : Nat} {zs : List Nat} (h : IsU w a len zs) (hb : Below w.heap.size w w') : IsU w' a len zs := by
  refine ⟨h.1, h.2.1, h.2.2.elim .inl fun ⟨b, off, e, hat⟩ => .inr ⟨b, off, e, fun i z hi => ?_⟩⟩
  have h1 := hat i z hi
  have hlt : b < w.heap.size := by
    rcases Nat.lt_or_ge b w.heap.size with h' | h'
    · exact h'
    · simp [World.cell?, Array.getElem?_eq_none h'] at h1
  exact (hb.cell (p := ⟨b, off + i, none⟩) hlt).trans h1
theorem u16_range {n : Int} (h : (Lit.int .u16 n).wf = true) : 0 ≤ n ∧ n < 65536 := by
  simp [Lit.wf, IntKind.min, IntKind.max, IntKind.bits, IntKind.signed] at h
  omega
theorem isU_of_ints {W : World} {x : Addr} {len cap : Nat} {zs : List Int} (hl : len ≤ cap) (hz : zs.length = cap) (hcell : ∀ i, i < zs.length → W.cell? (x.add i) = some (.int .u16 (zs.getD i 0))) (hwz : ∀ n ∈ zs, (Lit.int .u16 n).wf = true) :
    IsU W (some x) len ((zs.take len).map fun z => z.toNat) := by
  refine ⟨by simp; omega, ?_, ?_⟩
  · intro z hz'
    rw [List.mem_map] at hz'
    obtain ⟨n, hn, rfl⟩ := hz'
    have := u16_range (hwz n (List.mem_of_mem_take hn))
    omega
  by_cases h0 : len = 0
  · exact .inl h0
  · right
    obtain ⟨b, off, spot⟩ := x
    have hc := hcell 0 (by omega)
    have hspot : spot = none := by simpa [Addr.add] using World.cell?_spot hc
    subst hspot
    refine ⟨b, off, rfl, fun i z hi => ?_⟩
    rw [List.getElem?_map, Option.map_eq_some_iff] at hi
    obtain ⟨n, hn, rfl⟩ := hi
    have hi' : i < len := by
      have := (List.getElem?_eq_some_iff.1 hn).1
      rw [List.length_take] at this
      omega
    rw [List.getElem?_take_of_lt hi'] at hn
    have h1 := hcell i (by omega)
    rw [addr_add, List.getD_eq_getElem?_getD, hn] at h1
    have hr := u16_range (hwz n (List.mem_of_getElem? hn))
    rw [h1]
    show some (Value.int .u16 n) = _
    rw [Int.toNat_of_nonneg hr.1]
end Go.Proofs.YtojmffpkjnpnlaaDoor
