/- A list of open elements in memory. -/
import Derived.Test.YtmgbjkekfejnfaaOpenPl
import Derived.Test.YtmgbjkekfejnfaaWld
import Derived.Test.YtmgbjkekfejnfaaBs
namespace Go.Proofs.Ytmgbjkekfejnfaa
open Go.RowKit Go.Lib
set_option maxRecDepth 100000
set_option linter.unusedVariables false
/-- A list of elements in memory. -/
def IsE (w : World) (a : Option Addr) (len : Nat) (l : List Opn.E) : Prop :=
  l.length = len ∧ (len = 0 ∨ ∃ b off, a = some ⟨b, off, none⟩ ∧ ∀ i x, l[i]? = some x → w.cell? ⟨b, off + i * 4, none⟩ = some (.int .i64 x.id) ∧ w.cell? ⟨b, off + i * 4 + 1, none⟩ = some (.int .u8 x.space) ∧
    w.cell? ⟨b, off + i * 4 + 2, none⟩ = some (.string (bs x.name)) ∧ w.cell? ⟨b, off + i * 4 + 3, none⟩ = some (.int .u8 x.point))
theorem IsE.below {w w' : World} {a : Option Addr} {len : Nat} {l : List Opn.E} (h : IsE w a len l) (hb : Below w.heap.size w w') : IsE w' a len l := by
  refine ⟨h.1, h.2.elim .inl fun ⟨b, off, e, hat⟩ => .inr ⟨b, off, e, fun i x hi => ?_⟩⟩
  have up : ∀ {p : Addr} {v : Value}, w.cell? p = some v → w'.cell? p = some v := fun hc => (hb.cell (World.block_lt_of_cell? _ _ hc)).trans hc
  obtain ⟨h0, h1, h2, h3⟩ := hat i x hi
  exact ⟨up h0, up h1, up h2, up h3⟩
/-- An element's sizes. -/
def eFits (x : Opn.E) : Prop := x.space < 256 ∧ x.point < 256 ∧ x.name.length ≤ 9223372036854775807 ∧ (-9223372036854775808 ≤ x.id ∧ x.id ≤ 9223372036854775807)
end Go.Proofs.Ytmgbjkekfejnfaa
