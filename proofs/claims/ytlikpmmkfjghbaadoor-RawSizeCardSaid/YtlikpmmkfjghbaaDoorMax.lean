/- What walks over the library's Builder and Cut share. -/
import Derived.Test.YtlikpmmkfjghbaaDoorShelf
import Derived.Test.YtlikpmmkfjghbaaDoorBase
namespace Go.Proofs.YtlikpmmkfjghbaaDoor
open Go.RowKit Go.Lib
set_option maxRecDepth 100000
set_option linter.unusedVariables false

/-- A variable of the library's own holds some number. -/
def MaxCell (w : World) : Prop := ∃ m, w.cell? ⟨0, 0, none⟩ = some (.int .i64 m)
theorem max_below {w w' : World} (h : MaxCell w) (hb : Below w.heap.size w w') : MaxCell w' := by
  obtain ⟨m, hm⟩ := h
  exact ⟨m, (hb.cell (p := ⟨0, 0, none⟩) (World.block_lt_of_cell? _ _ hm)).trans hm⟩
theorem ebuilder_below {T e : TypeId} {B b : Nat} {p : Value} {bs : List Value} {W W' : World} (h : BuilderAtF T e B b p bs W) (hb : Below W.heap.size W W') : BuilderAtF T e B b p bs W' := by
  obtain ⟨hB, v, hv, hown, hne⟩ := h
  have hlt : b < W.heap.size := (Array.getElem?_eq_some_iff.1 hv).1
  exact ⟨hB, v, (hb.block b hlt).trans hv, hown.kept (row := none) ⟨hb.os, hb.tape, hb.output, hb.size, fun k hk _ => hb.block k hk⟩ (Classical.em _), hne⟩
theorem ebuilder_in {T e : TypeId} {B b : Nat} {bs : List Value} {W W' : World} (h : IsBuilderF T e B b bs W) (hb : Below W.heap.size W W') : IsBuilderF T e B b bs W' :=
  h.elim (fun x => .inl (ebuilder_below x hb)) (fun x => .inr (ebuilder_below x hb))

theorem bytes_beq (x y : ByteArray) : (x == y) = (x.data == y.data) := rfl
theorem bytes_ne {x y : ByteArray} (h : x ≠ y) : (x == y) = false := by
  rw [bytes_beq]
  exact beq_eq_false_iff_ne.2 fun e => h (ByteArray.ext e)
theorem bytes_eq {x y : ByteArray} (h : x = y) : (x == y) = true := by
  rw [bytes_beq, h]; simp
end Go.Proofs.YtlikpmmkfjghbaaDoor
