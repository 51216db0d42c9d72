/- What Text of layer 8 tells, as a value. -/
import Derived.Test.YtlikpmmkfjghbaaDoorRawPl
import Derived.Test.YtlikpmmkfjghbaaDoorBs
namespace Go.Proofs.YtlikpmmkfjghbaaDoor
open Go.RowKit Go.Lib
set_option maxRecDepth 100000
set_option linter.unusedVariables false

/-- What Text tells. -/
def rawV (l : List UInt8) (i : Int) (small : List UInt8) (mode : Nat) : Value :=
  if Raw.okB l i mode = true then .tuple #[.string (bs (Raw.textOf mode ((l.drop i.toNat).take (Raw.far small mode (l.drop i.toNat))))), .int .i64 (i + (Raw.far small mode (l.drop i.toNat) : Nat))]
  else .tuple #[.string ⟨#[]⟩, .int .i64 i]
theorem rawV_yes {l small : List UInt8} {n mode k : Nat} (hn : n ≤ l.length) (h1 : 1 ≤ mode) (h4 : mode ≤ 4) (hk : Raw.far small mode (l.drop n) = k) : rawV l n small mode = .tuple #[.string (bs (Raw.textOf mode ((l.drop n).take k))), .int .i64 ((n : Int) + (k : Int))] := by
  unfold rawV Raw.okB
  rw [if_pos (by rw [decide_eq_true (by omega), decide_eq_true (by omega), decide_eq_true h1, decide_eq_true h4]; rfl), show ((n : Int)).toNat = n by omega, hk]
theorem rawV_no {l small : List UInt8} {i : Int} {mode : Nat} (h : i < 0 ∨ (l.length : Int) < i ∨ mode < 1 ∨ 4 < mode) : rawV l i small mode = .tuple #[.string ⟨#[]⟩, .int .i64 i] := by
  unfold rawV Raw.okB
  rw [if_neg]
  intro e
  simp only [Bool.and_eq_true, decide_eq_true_eq] at e
  omega
theorem rawV_form (l : List UInt8) (i : Int) (small : List UInt8) (m : Nat) : ∃ (X : ByteArray) (n : Int), rawV l i small m = .tuple #[.string X, .int .i64 n] := by
  unfold rawV
  split
  · exact ⟨_, _, rfl⟩
  · exact ⟨_, _, rfl⟩
end Go.Proofs.YtlikpmmkfjghbaaDoor
