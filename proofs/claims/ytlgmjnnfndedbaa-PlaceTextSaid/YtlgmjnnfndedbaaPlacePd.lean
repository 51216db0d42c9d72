/- Walks over the program's layer 13: Drop, New. -/
import Derived.Test.YtlgmjnnfndedbaaPlacePa
import Derived.Test.YtlgmjnnfndedbaaPlacePe
import Derived.Test.YtlgmjnnfndedbaaRefWhole
import Derived.Deep.RegionLaw
import Derived.Deep.DeepCutAuto
namespace Go.Proofs.Ytlgmjnnfndedbaa
open Go.RowKit Go.Lib
set_option maxRecDepth 100000
set_option linter.unusedVariables false
set_option maxHeartbeats 4000000 in
theorem pnewW_any (w0 w : World) (hw0 : w0.heap.size ≤ w.heap.size) :
    Calls Try.prog 8 #[] w fun e w' => ∃ R S, e = .returned (.pointer (some ⟨R, 0, none⟩)) ∧ Below w.heap.size w w' ∧ WorldPX DomK 48 w0 w' R S Plc.new ∧ ∀ k, S k → w.heap.size ≤ k := by
  go_enter Try.func8, Try.ntmps8
  go_wp2_with fail
  refine (domM_all.new w w0.heap.size True.intro hw0).mono ?_
  rintro e w2 ⟨Rt, rfl, St, hX, hT⟩
  have HB := hid (show Below w.heap.size w w2 from ⟨hT.os, hT.tape, hT.output, hT.size, fun k hk => hT.block k hk (fun e => e)⟩)
  have HX := hid hX
  have HS := hid fun k (e : St k) => (hT.sub k e).resolve_left (fun e => e)
  clear hX hT
  go_wp2_with fail
  go_ret
  obtain ⟨w3, hw3⟩ : ∃ w3, w2.alloc (.cells #[.int .i64 0, .int .u8 0, .string ⟨#[104, 116, 109, 108]⟩, .int .u8 0] 36) = w3 := ⟨_, rfl⟩
  rw [hw3]
  have b3 : Below w2.heap.size w2 w3 := by rw [← hw3]; exact (Below.refl _ w2).alloc (Nat.le_refl _) _
  have z3 : w3.heap.size = w2.heap.size + 1 := by rw [← hw3]; simp
  have o3 : w3.ownsRow w0.heap.size 36 4 (.slice (some ⟨w2.heap.size, 0, none⟩) 1 1) [Plc.root0].length (eL [Plc.root0]) := by
    rw [← hw3]
    exact World.ownsRow_lit w2 _ 1 (by have := HB.out.size; omega) (by unfold maxLen; omega) rfl
  have b4 := (Below.refl w3.heap.size w3).alloc (Nat.le_refl _) (.cells #[.pointer (some ⟨Rt, 0, none⟩), .slice (some ⟨w2.heap.size, 0, none⟩) 1 1, .slice none 0 0, .bool false, .int .i64 1] 48)
  have t4 := BlkW.new w3 #[.pointer (some ⟨Rt, 0, none⟩), .slice (some ⟨w2.heap.size, 0, none⟩) 1 1, .slice none 0 0, .bool false, .int .i64 1] 48
  have z4 : (w3.alloc (.cells #[.pointer (some ⟨Rt, 0, none⟩), .slice (some ⟨w2.heap.size, 0, none⟩) 1 1, .slice none 0 0, .bool false, .int .i64 1] 48)).heap.size = w3.heap.size + 1 := by simp
  have hz := HB.out.size
  have hSt : ∀ k, St k → w.heap.size ≤ k ∧ k < w2.heap.size := fun k e => ⟨HS.out k e, (dpc_dom.inb HX.out k e).2⟩
  rw [← z3]
  refine ⟨w3.heap.size, fun k => k = w3.heap.size ∨ St k ∨ (Value.slice (some ⟨w2.heap.size, 0, none⟩) 1 1).ownBlock = some k ∨ (Value.slice none 0 0).ownBlock = some k, rfl, HB.out.trans ((b3.mono hz).trans (b4.mono (by omega))),
    ⟨Rt, _, .slice none 0 0, [], _, t4, dpc_dom.below (dpc_dom.below HX.out b3) b4, (OpW.of (own_below o3 b4) (by decide)), World.ownsRow_nil _ _ _ _, AttsM.nil w0, fun _ => Iff.rfl, fun k e => ?_, ⟨fun e => by have := hSt _ e; omega, fun e => ?_, fun e => by simp [Value.ownBlock] at e⟩, fun k e => ⟨fun a => ?_, fun a => by simp [Value.ownBlock] at a⟩, fun k e => by simp [Value.ownBlock] at e⟩, fun k e => ?_⟩
  · rcases e with e | e | e | e
    · omega
    · have := hSt k e; omega
    · have : w2.heap.size = k := by simpa [Value.ownBlock] using e
      omega
    · simp [Value.ownBlock] at e
  · have : w2.heap.size = w3.heap.size := by simpa [Value.ownBlock] using e
    omega
  · have : w2.heap.size = k := by simpa [Value.ownBlock] using e
    have := hSt k a
    omega
  · rcases e with e | e | e | e
    · omega
    · have := hSt k e; omega
    · have : w2.heap.size = k := by simpa [Value.ownBlock] using e
      omega
    · simp [Value.ownBlock] at e
end Go.Proofs.Ytlgmjnnfndedbaa
