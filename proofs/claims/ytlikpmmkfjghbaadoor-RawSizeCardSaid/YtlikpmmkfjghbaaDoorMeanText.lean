/- Walks: package ent, what a name stands for as a text. -/
import Derived.Test.YtlikpmmkfjghbaaDoorMeaning
import Derived.Laws.Cover4
namespace Go.Proofs.YtlikpmmkfjghbaaDoor
open Go.RowKit Go.Lib Ent
set_option maxRecDepth 100000
set_option linter.unusedVariables false

theorem enc_ok {c : Nat} (h : OkC c) : Utf8.encode (c : Int) = ⟨(encN c).toArray⟩ := by
  apply ByteArray.ext
  apply Array.ext'
  exact encL_ok h
theorem conv_two (w : World) (a b : Nat) (ha : OkC a) (hb : OkC b) : (convert 61 9 (.slice (some ⟨w.heap.size, 0, none⟩) 2 2)).run Tryd.prog (w.alloc (.cells #[.int .i32 a, .int .i32 b] 21)) = .ok (.string ⟨(encN a ++ encN b).toArray⟩) (w.alloc (.cells #[.int .i32 a, .int .i32 b] 21)) := by
  have h := run_convert_runes (P := Tryd.prog) (w.alloc (.cells #[.int .i32 a, .int .i32 b] 21)) 61 9 21 ⟨w.heap.size, 0, none⟩ 2 2 [(a : Int), (b : Int)] (by simp) Tryd.underlying61 Tryd.underlying21 Tryd.underlying9 (fun j hj => by
    rw [addr_add, Nat.zero_add, World.cell?_alloc_new]
    match j, hj with
    | 0, _ => rfl
    | 1, _ => rfl)
  rw [h]
  have hrb := runesBytes_encs [a, b] (by simp [ha, hb])
  simp only [List.map_cons, List.map_nil] at hrb
  have e : runesBytes [(a : Int), (b : Int)] = ⟨(encN a ++ encN b).toArray⟩ := by
    apply ByteArray.ext
    apply Array.ext'
    have e2 : encs [a, b] = encN a ++ encN b := by simp [encs]
    rw [hrb, e2]
  show Result.ok (Value.string (runesBytes [(a : Int), (b : Int)])) _ = _
  rw [e]
theorem conv_one (w : World) (a : Nat) (ha : OkC a) : (convert 61 9 (.slice (some ⟨w.heap.size, 0, none⟩) 1 1)).run Tryd.prog (w.alloc (.cells #[.int .i32 a] 21)) = .ok (.string ⟨(encN a).toArray⟩) (w.alloc (.cells #[.int .i32 a] 21)) := by
  have h := run_convert_runes (P := Tryd.prog) (w.alloc (.cells #[.int .i32 a] 21)) 61 9 21 ⟨w.heap.size, 0, none⟩ 1 1 [(a : Int)] (by simp) Tryd.underlying61 Tryd.underlying21 Tryd.underlying9 (fun j hj => by
    rw [addr_add, Nat.zero_add, World.cell?_alloc_new]
    match j, hj with
    | 0, _ => rfl)
  rw [h]
  show Result.ok (Value.string (runesBytes [(a : Int)])) _ = _
  rw [runes_one, enc_ok ha]
set_option maxHeartbeats 1000000 in
theorem mtext_any (a b : Nat) (x : Bool) (ha : OkC a) (hb : OkC b) (w : World) :
    Calls Tryd.prog 58 #[meanV a b x] w fun e w' => e = .returned (.string ⟨(textOf a b).toArray⟩) ∧ Below w.heap.size w w' := by
  unfold meanV
  have hla : a ≤ 1114111 := by unfold OkC at ha; omega
  have hlb : b ≤ 1114111 := by unfold OkC at hb; omega
  by_cases h0 : b = 0
  · have e : textOf a b = encN a := by unfold textOf; rw [if_pos h0, List.append_nil]
    rw [e]
    have HE := hid (enc_ok ha)
    have hz : ((b : Int) == 0) = true := by rw [h0]; rfl
    clear e h0 ha hb
    go_enter Tryd.func58, Tryd.ntmps58
    go_wp2
    go_ret
    exact ⟨by rw [← HE.out]; rfl, (Below.refl _ _).alloc (Nat.le_refl _) _⟩
  · have e : textOf a b = encN a ++ encN b := by unfold textOf; rw [if_neg h0]
    rw [e]
    have hz : ((b : Int) == 0) = false := beq_eq_false_iff_ne.2 (by omega)
    have hcv := conv_two (w.alloc (.cells #[.int .i32 a, .int .i32 b, .bool x] 70)) a b ha hb
    rw [show (w.alloc (.cells #[.int .i32 a, .int .i32 b, .bool x] 70)).heap.size = w.heap.size + 1 by simp] at hcv
    clear e h0 ha hb
    go_enter Tryd.func58, Tryd.ntmps58
    go_wp2
    go_ret
    exact ⟨rfl, ((Below.refl _ _).alloc (Nat.le_refl _) _).alloc (by simp) _⟩
end Go.Proofs.YtlikpmmkfjghbaaDoor
