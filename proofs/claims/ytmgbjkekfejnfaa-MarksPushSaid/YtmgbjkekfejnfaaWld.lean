/- What holds above a world. -/
import Derived.Test.YtmgbjkekfejnfaaGnd
namespace Go.Proofs.Ytmgbjkekfejnfaa
open Go.RowKit Go.Lib

/-- What holds of a world's variables, still holds above it. -/
def KeepsW (EW : World → Prop) : Prop := ∀ (w w' : World), EW w → Below w.heap.size w w' → EW w'
theorem cell_up {w w' : World} {a : Addr} {v : Value} (h : w.cell? a = some v) (hb : Below w.heap.size w w') : w'.cell? a = some v := (hb.cell (World.block_lt_of_cell? _ _ h)).trans h
end Go.Proofs.Ytmgbjkekfejnfaa
