/- Plain Lean: what package open says, over lists of open elements. Nothing of a program stands here. Written by tools/gen_openpl.py. Laws on lists of texts: such as the call itself made, and such as came in. Walks over the reference of layer 11: whether a text is in a list, what is special, what formats. -/
import Derived.Test.YtlgmjnnfndedbaaAppT
import Derived.Laws.AppendOwn
import Derived.OwnWalk
import Derived.Deep.LoopGhost
import Derived.IntWalk
import Derived.BigCall
namespace Go.Proofs.Ytlgmjnnfndedbaa.Opn
open Go.Lib
set_option maxRecDepth 100000
set_option linter.unusedVariables false

def specH : List (List UInt8) := [[97, 100, 100, 114, 101, 115, 115], [97, 112, 112, 108, 101, 116], [97, 114, 101, 97], [97, 114, 116, 105, 99, 108, 101], [97, 115, 105, 100, 101], [98, 97, 115, 101], [98, 97, 115, 101, 102, 111, 110, 116], [98, 103, 115, 111, 117, 110, 100], [98, 108, 111, 99, 107, 113, 117, 111, 116, 101], [98, 111, 100, 121], [98, 114], [98, 117, 116, 116, 111, 110], [99, 97, 112, 116, 105, 111, 110], [99, 101, 110, 116, 101, 114], [99, 111, 108], [99, 111, 108, 103, 114, 111, 117, 112], [100, 100], [100, 101, 116, 97, 105, 108, 115], [100, 105, 97, 108, 111, 103], [100, 105, 114], [100, 105, 118], [100, 108], [100, 116], [101, 109, 98, 101, 100], [102, 105, 101, 108, 100, 115, 101, 116], [102, 105, 103, 99, 97, 112, 116, 105, 111, 110], [102, 105, 103, 117, 114, 101], [102, 111, 111, 116, 101, 114], [102, 111, 114, 109], [102, 114, 97, 109, 101], [102, 114, 97, 109, 101, 115, 101, 116], [104, 49], [104, 50], [104, 51], [104, 52], [104, 53], [104, 54], [104, 101, 97, 100], [104, 101, 97, 100, 101, 114], [104, 103, 114, 111, 117, 112], [104, 114], [104, 116, 109, 108], [105, 102, 114, 97, 109, 101], [105, 109, 103], [105, 110, 112, 117, 116], [107, 101, 121, 103, 101, 110], [108, 105], [108, 105, 110, 107], [108, 105, 115, 116, 105, 110, 103], [109, 97, 105, 110], [109, 97, 114, 113, 117, 101, 101], [109, 101, 110, 117], [109, 101, 116, 97], [110, 97, 118], [110, 111, 101, 109, 98, 101, 100], [110, 111, 102, 114, 97, 109, 101, 115], [110, 111, 115, 99, 114, 105, 112, 116], [111, 98, 106, 101, 99, 116], [111, 108], [112], [112, 97, 114, 97, 109], [112, 108, 97, 105, 110, 116, 101, 120, 116], [112, 114, 101], [115, 99, 114, 105, 112, 116], [115, 101, 97, 114, 99, 104], [115, 101, 99, 116, 105, 111, 110], [115, 101, 108, 101, 99, 116], [115, 111, 117, 114, 99, 101], [115, 116, 121, 108, 101], [115, 117, 109, 109, 97, 114, 121], [116, 97, 98, 108, 101], [116, 98, 111, 100, 121], [116, 100], [116, 101, 109, 112, 108, 97, 116, 101], [116, 101, 120, 116, 97, 114, 101, 97], [116, 102, 111, 111, 116], [116, 104], [116, 104, 101, 97, 100], [116, 105, 116, 108, 101], [116, 114], [116, 114, 97, 99, 107], [117, 108], [119, 98, 114], [120, 109, 112]]
def specM : List (List UInt8) := [[97, 110, 110, 111, 116, 97, 116, 105, 111, 110, 45, 120, 109, 108], [109, 105], [109, 110], [109, 111], [109, 115], [109, 116, 101, 120, 116]]
def specS : List (List UInt8) := [[100, 101, 115, 99], [102, 111, 114, 101, 105, 103, 110, 79, 98, 106, 101, 99, 116], [116, 105, 116, 108, 101]]
def tabN : List (List UInt8) := [[104, 116, 109, 108], [116, 97, 98, 108, 101], [116, 101, 109, 112, 108, 97, 116, 101]]
def allN : List (List UInt8) := [[97, 112, 112, 108, 101, 116], [99, 97, 112, 116, 105, 111, 110], [104, 116, 109, 108], [109, 97, 114, 113, 117, 101, 101], [111, 98, 106, 101, 99, 116], [116, 97, 98, 108, 101], [116, 100], [116, 101, 109, 112, 108, 97, 116, 101], [116, 104]]
def listN : List (List UInt8) := [[97, 112, 112, 108, 101, 116], [99, 97, 112, 116, 105, 111, 110], [104, 116, 109, 108], [109, 97, 114, 113, 117, 101, 101], [111, 98, 106, 101, 99, 116], [116, 97, 98, 108, 101], [116, 100], [116, 101, 109, 112, 108, 97, 116, 101], [116, 104], [111, 108], [117, 108]]
def butN : List (List UInt8) := [[97, 112, 112, 108, 101, 116], [99, 97, 112, 116, 105, 111, 110], [104, 116, 109, 108], [109, 97, 114, 113, 117, 101, 101], [111, 98, 106, 101, 99, 116], [116, 97, 98, 108, 101], [116, 100], [116, 101, 109, 112, 108, 97, 116, 101], [116, 104], [98, 117, 116, 116, 111, 110]]
/-- An open element. -/
structure E where
  id : Int
  space : Nat
  name : List UInt8
  point : Nat
def specialB (sp : Nat) (n : List UInt8) : Bool := if sp = 0 then specH.contains n else if sp = 2 then specM.contains n else if sp = 1 then specS.contains n else false
def oneB (x : E) (ns : List (List UInt8)) : Bool := decide (x.space = 0) && ns.contains x.name
def boundN (sc : Nat) : List (List UInt8) := if sc = 1 then listN else if sc = 2 then butN else allN
def boundB (x : E) (sc : Nat) : Bool := if sc = 3 then oneB x tabN else if x.space ≠ 0 then specialB x.space x.name else (boundN sc).contains x.name
def untilI (l : List E) (ns : List (List UInt8)) : Nat → Int
  | 0 => -1
  | n + 1 => match l[n]? with
    | none => -1
    | some x => if oneB x ns then (n : Int) else untilI l ns n
/-! ### Steps -/
section
variable {l : List E} {n : Nat} {x : E} (hx : l[n]? = some x)
include hx
theorem untilI_step (ns : List (List UInt8)) : untilI l ns (n + 1) = if oneB x ns then (n : Int) else untilI l ns n := by simp [untilI, hx]
end
/-! ### What the statement OpenScopes says -/
theorem untilI_lt (l : List E) (ns : List (List UInt8)) : ∀ n : Nat, untilI l ns n < n ∧ -1 ≤ untilI l ns n
  | 0 => ⟨by show (-1 : Int) < 0; omega, Int.le_refl _⟩
  | n + 1 => by
    have h := untilI_lt l ns n
    unfold untilI
    split
    · omega
    · split <;> omega
/-! ### What the statement OpenOrder says -/
end Go.Proofs.Ytlgmjnnfndedbaa.Opn
namespace Go.Proofs.Ytlgmjnnfndedbaa
open Go.RowKit Go.Lib
set_option maxRecDepth 100000
set_option linter.unusedVariables false

def strsL (ls : List (List UInt8)) : List Value := ls.map fun l => Value.string ⟨l.toArray⟩
theorem strsL_get (ls : List (List UInt8)) (j : Nat) : (strsL ls)[j]? = (ls[j]?).map fun l => Value.string ⟨l.toArray⟩ := by simp [strsL]

/-- A list of texts. -/
def IsS (w : World) (a : Option Addr) (len : Nat) (ls : List (List UInt8)) : Prop :=
  ls.length = len ∧ (len = 0 ∨ ∃ b off, a = some ⟨b, off, none⟩ ∧ ∀ i l, ls[i]? = some l → w.cell? ⟨b, off + i, none⟩ = some (.string ⟨l.toArray⟩))
theorem IsS.below {w w' : World} {a : Option Addr} {len : Nat} {ls : List (List UInt8)} (h : IsS w a len ls) (hb : Below w.heap.size w w') : IsS w' a len ls := by
  refine ⟨h.1, h.2.elim .inl fun ⟨b, off, e, hat⟩ => .inr ⟨b, off, e, fun i l hi => ?_⟩⟩
  have h1 := hat i l hi
  have hlt : b < w.heap.size := by
    rcases Nat.lt_or_ge b w.heap.size with h' | h'
    · exact h'
    · simp [World.cell?, Array.getElem?_eq_none h'] at h1
  exact (hb.cell (p := ⟨b, off + i, none⟩) hlt).trans h1
theorem IsS.take {w : World} {a : Option Addr} {len : Nat} {ls : List (List UInt8)} (h : IsS w a len ls) (k : Nat) (hk : k ≤ len) : IsS w a k (ls.take k) := by
  refine ⟨by rw [List.length_take, h.1]; omega, ?_⟩
  rcases h.2 with h0 | ⟨b, off, e, hat⟩
  · exact .inl (by omega)
  · refine .inr ⟨b, off, e, fun i x hi => hat i x ?_⟩
    have hlt : i < (ls.take k).length := (List.getElem?_eq_some_iff.1 hi).1
    rw [List.length_take] at hlt
    rwa [List.getElem?_take_of_lt (by omega)] at hi
end Go.Proofs.Ytlgmjnnfndedbaa
namespace Go.Proofs.Ytlgmjnnfndedbaa
open Go.RowKit Go.Lib
set_option maxRecDepth 100000
set_option linter.unusedVariables false

/-- A row of texts that lies whole in a block. -/
theorem isS_of_block {W : World} {g : Nat} {ls : List (List UInt8)} {C : Array Value} {t : TypeId} {fr : Nat × Nat} {n : Nat} (hn : ls.length = n) (h : W.heap[g]? = some (.cells C t fr)) (hC : C.toList = strsL ls) : IsS W (some ⟨g, 0, none⟩) n ls := by
  refine ⟨hn, .inr ⟨g, 0, rfl, fun i l hi => ?_⟩⟩
  have h1 : C[i]? = some (.string ⟨l.toArray⟩) := by rw [← Array.getElem?_toList, hC, strsL_get, hi]; rfl
  rw [Nat.zero_add]
  simp only [World.cell?, h]
  simpa using h1
theorem os_next {ls : List (List UInt8)} {k : Nat} {z v : List UInt8} (h : (ls.take k).contains v = false) (hz : ls[k]? = some z) (hne : z ≠ v) : (ls.take (k + 1)).contains v = false := by
  rw [List.take_add_one, hz]
  cases hc : (ls.take k ++ [z]).contains v with
  | false => exact hc
  | true =>
    rcases List.mem_append.1 (List.contains_iff_mem.1 hc) with h1 | h1
    · rw [List.contains_iff_mem.2 h1] at h; cases h
    · exact absurd (List.mem_singleton.1 h1).symm hne
end Go.Proofs.Ytlgmjnnfndedbaa
