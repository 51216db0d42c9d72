/- Laws that every walk uses; a slice of bytes as a text. Plain: what a byte is. What walks over the library's Builder and Cut share. Walks over the reference of layer 2: digits. Walks: package class, digits. Walks over the reference of layer 2: letters. Walks over the reference of layer 2: what a blank byte is. Walks over the reference of layer 2: hexadecimal digits. -/
import Derived.Test.YtgldgdopabmefaaGreatDoorGnd
import Derived.Test.YtgldgdopabmefaaGreatDoorShelf
import Derived.Laws.BytesArg
namespace Go.Proofs.YtgldgdopabmefaaGreatDoor
open Go.RowKit Go.Lib
set_option maxRecDepth 100000
set_option linter.unusedVariables false

theorem conv_bytes {w : World} {a : Option Addr} {len : Nat} {l : List UInt8} (h : IsB w a len l) (cap : Nat) :
    (convert 60 9 (.slice a len cap)).run Tryz.prog w = .ok (.string ⟨l.toArray⟩) w := by
  obtain ⟨hl, h0 | ⟨b, off, rfl, hat⟩⟩ := h
  · subst h0
    obtain rfl : l = [] := List.length_eq_zero_iff.1 hl
    cases a with
    | none => exact run_convert_bytes_nil w _ _ Tryz.underlying60 Tryz.underlying5 0 cap _ Tryz.underlying9
    | some x => exact run_convert_bytes_back w _ _ _ x cap [] Tryz.underlying60 Tryz.underlying5 Tryz.underlying9 (fun j hj => absurd hj (by simp))
  · subst hl
    refine run_convert_bytes_back w _ _ _ ⟨b, off, none⟩ cap l Tryz.underlying60 Tryz.underlying5 Tryz.underlying9 (fun j hj => ?_)
    rw [addr_add, hat j hj, U8.B_eq (List.getElem?_eq_getElem hj)]
end Go.Proofs.YtgldgdopabmefaaGreatDoor
namespace Go.Proofs.YtgldgdopabmefaaGreatDoor
open Go.RowKit Go.Lib
set_option maxRecDepth 100000
set_option linter.unusedVariables false
def letterN (c : Nat) : Bool := decide ((97 ≤ c ∧ c ≤ 122) ∨ (65 ≤ c ∧ c ≤ 90))
def digitN (c : Nat) : Bool := decide (48 ≤ c ∧ c ≤ 57)
def hexN (c : Nat) : Int := if 48 ≤ c ∧ c ≤ 57 then c - 48 else if 97 ≤ c ∧ c ≤ 102 then c - 97 + 10 else if 65 ≤ c ∧ c ≤ 70 then c - 65 + 10 else -1
def spaceN (c : Nat) : Bool := decide (c = 9 ∨ c = 10 ∨ c = 12 ∨ c = 13 ∨ c = 32)
def blankR (r : Int) : Bool := decide (r = 9 ∨ r = 10 ∨ r = 12 ∨ r = 13 ∨ r = 32 ∨ r = 160 ∨ r = 5760 ∨ (8192 ≤ r ∧ r ≤ 8202) ∨ r = 8239 ∨ r = 8287 ∨ r = 12288)
end Go.Proofs.YtgldgdopabmefaaGreatDoor
namespace Go.Proofs.YtgldgdopabmefaaGreatDoor
open Go.RowKit Go.Lib
set_option maxRecDepth 100000
set_option linter.unusedVariables false

/-- A variable of the library's own holds some number. -/
def MaxCell (w : World) : Prop := ∃ m, w.cell? ⟨0, 0, none⟩ = some (.int .i64 m)
theorem max_below {w w' : World} (h : MaxCell w) (hb : Below w.heap.size w w') : MaxCell w' := by
  obtain ⟨m, hm⟩ := h
  exact ⟨m, (hb.cell (p := ⟨0, 0, none⟩) (World.block_lt_of_cell? _ _ hm)).trans hm⟩
theorem ebuilder_below {T e : TypeId} {B b : Nat} {p : Value} {bs : List Value} {W W' : World} (h : BuilderAtF T e B b p bs W) (hb : Below W.heap.size W W') : BuilderAtF T e B b p bs W' := by
  obtain ⟨hB, v, hv, hown, hne⟩ := h
  have hlt : b < W.heap.size := (Array.getElem?_eq_some_iff.1 hv).1
  exact ⟨hB, v, (hb.block b hlt).trans hv, hown.kept (row := none) ⟨hb.os, hb.tape, hb.output, hb.size, fun k hk _ => hb.block k hk⟩ (Classical.em _), hne⟩
theorem ebuilder_in {T e : TypeId} {B b : Nat} {bs : List Value} {W W' : World} (h : IsBuilderF T e B b bs W) (hb : Below W.heap.size W W') : IsBuilderF T e B b bs W' :=
  h.elim (fun x => .inl (ebuilder_below x hb)) (fun x => .inr (ebuilder_below x hb))

theorem bytes_beq (x y : ByteArray) : (x == y) = (x.data == y.data) := rfl
theorem bytes_ne {x y : ByteArray} (h : x ≠ y) : (x == y) = false := by
  rw [bytes_beq]
  exact beq_eq_false_iff_ne.2 fun e => h (ByteArray.ext e)
theorem bytes_eq {x y : ByteArray} (h : x = y) : (x == y) = true := by
  rw [bytes_beq, h]; simp
end Go.Proofs.YtgldgdopabmefaaGreatDoor
namespace Go.Proofs.YtgldgdopabmefaaGreatDoor
open Go.RowKit Go.Lib
set_option maxRecDepth 100000
set_option linter.unusedVariables false
theorem rdigit_any (c : Nat) (hc : c < 256) (w : World) :
    Calls Tryz.prog 71 #[.int .u8 c] w fun e w' => e = .returned (.bool (digitN c)) ∧ w = w' := by
  rcases (show c < 48 ∨ 57 < c ∨ (48 ≤ c ∧ c ≤ 57) by omega) with h | h | ⟨h, h2⟩
  · have e : digitN c = false := by simp only [digitN]; exact decide_eq_false (by omega)
    rw [e]; clear e
    go_enter Tryz.func71, Tryz.ntmps71
    go_wp2
    go_ret
    first | exact ⟨rfl, rfl⟩ | exact ⟨by simp; omega, rfl⟩
  · have e : digitN c = false := by simp only [digitN]; exact decide_eq_false (by omega)
    rw [e]; clear e
    have h2 : 48 ≤ c := by omega
    go_enter Tryz.func71, Tryz.ntmps71
    go_wp2
    go_ret
    first | exact ⟨rfl, rfl⟩ | exact ⟨by simp; omega, rfl⟩
  · have e : digitN c = true := by simp only [digitN]; exact decide_eq_true (by omega)
    rw [e]; clear e
    go_enter Tryz.func71, Tryz.ntmps71
    go_wp2
    go_ret
    first | exact ⟨rfl, rfl⟩ | exact ⟨by simp; omega, rfl⟩
end Go.Proofs.YtgldgdopabmefaaGreatDoor
namespace Go.Proofs.YtgldgdopabmefaaGreatDoor
open Go.RowKit Go.Lib
set_option maxRecDepth 100000
set_option linter.unusedVariables false

theorem cdigit_any (c : Nat) (hc : c < 256) (w : World) :
    Calls Tryz.prog 105 #[.int .u8 c] w fun e w' => e = .returned (.bool (digitN c)) ∧ w = w' := by
  rcases (show c < 48 ∨ 57 < c ∨ (48 ≤ c ∧ c ≤ 57) by omega) with h | h | ⟨h, h2⟩
  · have e : digitN c = false := by simp only [digitN]; exact decide_eq_false (by omega)
    rw [e]; clear e
    go_enter Tryz.func105, Tryz.ntmps105
    go_wp2
    go_ret
    first | exact ⟨rfl, rfl⟩ | exact ⟨by simp; omega, rfl⟩
  · have e : digitN c = false := by simp only [digitN]; exact decide_eq_false (by omega)
    rw [e]; clear e
    have h2 : 48 ≤ c := by omega
    go_enter Tryz.func105, Tryz.ntmps105
    go_wp2
    go_ret
    first | exact ⟨rfl, rfl⟩ | exact ⟨by simp; omega, rfl⟩
  · have e : digitN c = true := by simp only [digitN]; exact decide_eq_true (by omega)
    rw [e]; clear e
    go_enter Tryz.func105, Tryz.ntmps105
    go_wp2
    go_ret
    first | exact ⟨rfl, rfl⟩ | exact ⟨by simp; omega, rfl⟩
end Go.Proofs.YtgldgdopabmefaaGreatDoor
namespace Go.Proofs.YtgldgdopabmefaaGreatDoor
open Go.RowKit Go.Lib
set_option maxRecDepth 100000
set_option linter.unusedVariables false
theorem rletter_any (c : Nat) (hc : c < 256) (w : World) :
    Calls Tryz.prog 36 #[.int .u8 c] w fun e w' => e = .returned (.bool (letterN c)) ∧ w = w' := by
  by_cases h1 : 97 ≤ c ∧ c ≤ 122
  · have e : letterN c = true := by simp [letterN, h1]
    rw [e]; clear e
    obtain ⟨a1, a2⟩ := h1
    go_enter Tryz.func36, Tryz.ntmps36
    go_wp2
    go_ret
    first | exact ⟨rfl, rfl⟩ | exact ⟨by simp; omega, rfl⟩
  by_cases h2 : 65 ≤ c ∧ c ≤ 90
  · have e : letterN c = true := by simp [letterN, h2]
    rw [e]; clear e
    obtain ⟨a1, a2⟩ := h2
    have a3 : c < 97 := by omega
    clear h1
    go_enter Tryz.func36, Tryz.ntmps36
    go_wp2
    go_ret
    first | exact ⟨rfl, rfl⟩ | exact ⟨by simp; omega, rfl⟩
  have e : letterN c = false := by simp only [letterN]; exact decide_eq_false (by omega)
  rw [e]; clear e
  rcases (show c < 65 ∨ (90 < c ∧ c < 97) ∨ 122 < c by omega) with h6 | ⟨h6, h7⟩ | h6
  · clear h1 h2
    have h8 : c < 97 := by omega
    have h9 : c < 97 := by omega
    go_enter Tryz.func36, Tryz.ntmps36
    go_wp2
    go_ret
    first | exact ⟨rfl, rfl⟩ | exact ⟨by simp; omega, rfl⟩
  · clear h1 h2
    have h8 : 65 ≤ c := by omega
    go_enter Tryz.func36, Tryz.ntmps36
    go_wp2
    go_ret
    first | exact ⟨rfl, rfl⟩ | exact ⟨by simp; omega, rfl⟩
  · clear h1 h2
    have h8 : 97 ≤ c := by omega
    have h9 : 65 ≤ c := by omega
    have h7 : 90 < c := by omega
    go_enter Tryz.func36, Tryz.ntmps36
    go_wp2
    go_ret
    first | exact ⟨rfl, rfl⟩ | exact ⟨by simp; omega, rfl⟩
end Go.Proofs.YtgldgdopabmefaaGreatDoor
namespace Go.Proofs.YtgldgdopabmefaaGreatDoor
open Go.RowKit Go.Lib
set_option maxRecDepth 100000
set_option linter.unusedVariables false
theorem rspace_any (c : Nat) (hc : c < 256) (w : World) :
    Calls Tryz.prog 67 #[.int .u8 c] w fun e w' => e = .returned (.bool (spaceN c)) ∧ w = w' := by
  by_cases h0 : c = 9
  · subst h0
    have e : spaceN 9 = true := by decide
    rw [e]; clear e
    go_enter Tryz.func67, Tryz.ntmps67
    go_wp2
    go_ret
    first | exact ⟨rfl, rfl⟩ | exact ⟨by simp; omega, rfl⟩
  have t0 : ((c : Int) == 9) = false := beq_eq_false_iff_ne.2 (by omega)
  by_cases h1 : c = 10
  · subst h1
    have e : spaceN 10 = true := by decide
    rw [e]; clear e
    go_enter Tryz.func67, Tryz.ntmps67
    go_wp2
    go_ret
    first | exact ⟨rfl, rfl⟩ | exact ⟨by simp; omega, rfl⟩
  have t1 : ((c : Int) == 10) = false := beq_eq_false_iff_ne.2 (by omega)
  by_cases h2 : c = 12
  · subst h2
    have e : spaceN 12 = true := by decide
    rw [e]; clear e
    go_enter Tryz.func67, Tryz.ntmps67
    go_wp2
    go_ret
    first | exact ⟨rfl, rfl⟩ | exact ⟨by simp; omega, rfl⟩
  have t2 : ((c : Int) == 12) = false := beq_eq_false_iff_ne.2 (by omega)
  by_cases h3 : c = 13
  · subst h3
    have e : spaceN 13 = true := by decide
    rw [e]; clear e
    go_enter Tryz.func67, Tryz.ntmps67
    go_wp2
    go_ret
    first | exact ⟨rfl, rfl⟩ | exact ⟨by simp; omega, rfl⟩
  have t3 : ((c : Int) == 13) = false := beq_eq_false_iff_ne.2 (by omega)
  by_cases h4 : c = 32
  · subst h4
    have e : spaceN 32 = true := by decide
    rw [e]; clear e
    go_enter Tryz.func67, Tryz.ntmps67
    go_wp2
    go_ret
    first | exact ⟨rfl, rfl⟩ | exact ⟨by simp; omega, rfl⟩
  have t4 : ((c : Int) == 32) = false := beq_eq_false_iff_ne.2 (by omega)
  have e : spaceN c = false := by simp [spaceN, h0, h1, h2, h3, h4]
  rw [e]; clear e h0 h1 h2 h3 h4
  go_enter Tryz.func67, Tryz.ntmps67
  go_wp2
  go_ret
  first | exact ⟨rfl, rfl⟩ | exact ⟨by simp; omega, rfl⟩
end Go.Proofs.YtgldgdopabmefaaGreatDoor
namespace Go.Proofs.YtgldgdopabmefaaGreatDoor
open Go.RowKit Go.Lib
set_option maxRecDepth 100000
set_option linter.unusedVariables false
theorem rhex_any (c : Nat) (hc : c < 256) (w : World) :
    Calls Tryz.prog 110 #[.int .u8 c] w fun e w' => e = .returned (.int .i64 (hexN c)) ∧ w = w' := by
  rcases (show (c < 48) ∨ (48 ≤ c ∧ c ≤ 57) ∨ (57 < c ∧ c < 65) ∨ (65 ≤ c ∧ c ≤ 70) ∨ (70 < c ∧ c < 97) ∨ (97 ≤ c ∧ c ≤ 102) ∨ (102 < c) by omega) with h | ⟨h, h'⟩ | ⟨h, h'⟩ | ⟨h, h'⟩ | ⟨h, h'⟩ | ⟨h, h'⟩ | h
  · have e : hexN c = -1 := by unfold hexN; repeat' split <;> omega
    rw [e]; clear e
    have f0a : c < 48 := by omega
    have f1a : c < 97 := by omega
    have f2a : c < 65 := by omega
    go_enter Tryz.func110, Tryz.ntmps110
    go_wp2
    go_ret
    first | exact ⟨rfl, rfl⟩ | exact ⟨by simp; omega, rfl⟩
  · have e : hexN c = (c : Int) - 48 := by unfold hexN; repeat' split <;> omega
    rw [e]; clear e
    have u : (0 : Int) ≤ (c : Int) - 48 := by omega
    have u2 : (c : Int) - 48 < 256 := by omega
    have f0a : 48 ≤ c := by omega
    have f0b : c ≤ 57 := by omega
    have f1a : c < 97 := by omega
    have f2a : c < 65 := by omega
    go_enter Tryz.func110, Tryz.ntmps110
    go_wp2
    go_ret
    first | exact ⟨rfl, rfl⟩ | exact ⟨by simp; omega, rfl⟩
  · have e : hexN c = -1 := by unfold hexN; repeat' split <;> omega
    rw [e]; clear e
    have f0a : 48 ≤ c := by omega
    have f0b : 57 < c := by omega
    have f1a : c < 97 := by omega
    have f2a : c < 65 := by omega
    go_enter Tryz.func110, Tryz.ntmps110
    go_wp2
    go_ret
    first | exact ⟨rfl, rfl⟩ | exact ⟨by simp; omega, rfl⟩
  · have e : hexN c = (c : Int) - 65 + 10 := by unfold hexN; repeat' split <;> omega
    rw [e]; clear e
    have u : (0 : Int) ≤ (c : Int) - 65 := by omega
    have u2 : (c : Int) - 65 < 256 := by omega
    have f0a : 48 ≤ c := by omega
    have f0b : 57 < c := by omega
    have f1a : c < 97 := by omega
    have f2a : 65 ≤ c := by omega
    have f2b : c ≤ 70 := by omega
    go_enter Tryz.func110, Tryz.ntmps110
    go_wp2
    go_ret
    first | exact ⟨rfl, rfl⟩ | exact ⟨by simp; omega, rfl⟩
  · have e : hexN c = -1 := by unfold hexN; repeat' split <;> omega
    rw [e]; clear e
    have f0a : 48 ≤ c := by omega
    have f0b : 57 < c := by omega
    have f1a : c < 97 := by omega
    have f2a : 65 ≤ c := by omega
    have f2b : 70 < c := by omega
    go_enter Tryz.func110, Tryz.ntmps110
    go_wp2
    go_ret
    first | exact ⟨rfl, rfl⟩ | exact ⟨by simp; omega, rfl⟩
  · have e : hexN c = (c : Int) - 97 + 10 := by unfold hexN; repeat' split <;> omega
    rw [e]; clear e
    have u : (0 : Int) ≤ (c : Int) - 97 := by omega
    have u2 : (c : Int) - 97 < 256 := by omega
    have f0a : 48 ≤ c := by omega
    have f0b : 57 < c := by omega
    have f1a : 97 ≤ c := by omega
    have f1b : c ≤ 102 := by omega
    have f2a : 65 ≤ c := by omega
    have f2b : 70 < c := by omega
    go_enter Tryz.func110, Tryz.ntmps110
    go_wp2
    go_ret
    first | exact ⟨rfl, rfl⟩ | exact ⟨by simp; omega, rfl⟩
  · have e : hexN c = -1 := by unfold hexN; repeat' split <;> omega
    rw [e]; clear e
    have f0a : 48 ≤ c := by omega
    have f0b : 57 < c := by omega
    have f1a : 97 ≤ c := by omega
    have f1b : 102 < c := by omega
    have f2a : 65 ≤ c := by omega
    have f2b : 70 < c := by omega
    go_enter Tryz.func110, Tryz.ntmps110
    go_wp2
    go_ret
    first | exact ⟨rfl, rfl⟩ | exact ⟨by simp; omega, rfl⟩
end Go.Proofs.YtgldgdopabmefaaGreatDoor
