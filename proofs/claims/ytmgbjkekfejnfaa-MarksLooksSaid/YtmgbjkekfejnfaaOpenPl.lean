/- Plain Lean: what package open says, over lists of open elements. Nothing of a program stands here. Written by tools/gen_openpl.py. -/
import Derived.Test.YtmgbjkekfejnfaaTxt
namespace Go.Proofs.Ytmgbjkekfejnfaa.Opn
open Go.Lib
set_option maxRecDepth 100000
set_option linter.unusedVariables false

def specH : List (List UInt8) := [[97, 100, 100, 114, 101, 115, 115], [97, 112, 112, 108, 101, 116], [97, 114, 101, 97], [97, 114, 116, 105, 99, 108, 101], [97, 115, 105, 100, 101], [98, 97, 115, 101], [98, 97, 115, 101, 102, 111, 110, 116], [98, 103, 115, 111, 117, 110, 100], [98, 108, 111, 99, 107, 113, 117, 111, 116, 101], [98, 111, 100, 121], [98, 114], [98, 117, 116, 116, 111, 110], [99, 97, 112, 116, 105, 111, 110], [99, 101, 110, 116, 101, 114], [99, 111, 108], [99, 111, 108, 103, 114, 111, 117, 112], [100, 100], [100, 101, 116, 97, 105, 108, 115], [100, 105, 97, 108, 111, 103], [100, 105, 114], [100, 105, 118], [100, 108], [100, 116], [101, 109, 98, 101, 100], [102, 105, 101, 108, 100, 115, 101, 116], [102, 105, 103, 99, 97, 112, 116, 105, 111, 110], [102, 105, 103, 117, 114, 101], [102, 111, 111, 116, 101, 114], [102, 111, 114, 109], [102, 114, 97, 109, 101], [102, 114, 97, 109, 101, 115, 101, 116], [104, 49], [104, 50], [104, 51], [104, 52], [104, 53], [104, 54], [104, 101, 97, 100], [104, 101, 97, 100, 101, 114], [104, 103, 114, 111, 117, 112], [104, 114], [104, 116, 109, 108], [105, 102, 114, 97, 109, 101], [105, 109, 103], [105, 110, 112, 117, 116], [107, 101, 121, 103, 101, 110], [108, 105], [108, 105, 110, 107], [108, 105, 115, 116, 105, 110, 103], [109, 97, 105, 110], [109, 97, 114, 113, 117, 101, 101], [109, 101, 110, 117], [109, 101, 116, 97], [110, 97, 118], [110, 111, 101, 109, 98, 101, 100], [110, 111, 102, 114, 97, 109, 101, 115], [110, 111, 115, 99, 114, 105, 112, 116], [111, 98, 106, 101, 99, 116], [111, 108], [112], [112, 97, 114, 97, 109], [112, 108, 97, 105, 110, 116, 101, 120, 116], [112, 114, 101], [115, 99, 114, 105, 112, 116], [115, 101, 97, 114, 99, 104], [115, 101, 99, 116, 105, 111, 110], [115, 101, 108, 101, 99, 116], [115, 111, 117, 114, 99, 101], [115, 116, 121, 108, 101], [115, 117, 109, 109, 97, 114, 121], [116, 97, 98, 108, 101], [116, 98, 111, 100, 121], [116, 100], [116, 101, 109, 112, 108, 97, 116, 101], [116, 101, 120, 116, 97, 114, 101, 97], [116, 102, 111, 111, 116], [116, 104], [116, 104, 101, 97, 100], [116, 105, 116, 108, 101], [116, 114], [116, 114, 97, 99, 107], [117, 108], [119, 98, 114], [120, 109, 112]]
def specM : List (List UInt8) := [[97, 110, 110, 111, 116, 97, 116, 105, 111, 110, 45, 120, 109, 108], [109, 105], [109, 110], [109, 111], [109, 115], [109, 116, 101, 120, 116]]
def specS : List (List UInt8) := [[100, 101, 115, 99], [102, 111, 114, 101, 105, 103, 110, 79, 98, 106, 101, 99, 116], [116, 105, 116, 108, 101]]
def fmtN : List (List UInt8) := [[97], [98], [98, 105, 103], [99, 111, 100, 101], [101, 109], [102, 111, 110, 116], [105], [110, 111, 98, 114], [115], [115, 109, 97, 108, 108], [115, 116, 114, 105, 107, 101], [115, 116, 114, 111, 110, 103], [116, 116], [117]]
def tabN : List (List UInt8) := [[104, 116, 109, 108], [116, 97, 98, 108, 101], [116, 101, 109, 112, 108, 97, 116, 101]]
def allN : List (List UInt8) := [[97, 112, 112, 108, 101, 116], [99, 97, 112, 116, 105, 111, 110], [104, 116, 109, 108], [109, 97, 114, 113, 117, 101, 101], [111, 98, 106, 101, 99, 116], [116, 97, 98, 108, 101], [116, 100], [116, 101, 109, 112, 108, 97, 116, 101], [116, 104]]
def listN : List (List UInt8) := [[97, 112, 112, 108, 101, 116], [99, 97, 112, 116, 105, 111, 110], [104, 116, 109, 108], [109, 97, 114, 113, 117, 101, 101], [111, 98, 106, 101, 99, 116], [116, 97, 98, 108, 101], [116, 100], [116, 101, 109, 112, 108, 97, 116, 101], [116, 104], [111, 108], [117, 108]]
def butN : List (List UInt8) := [[97, 112, 112, 108, 101, 116], [99, 97, 112, 116, 105, 111, 110], [104, 116, 109, 108], [109, 97, 114, 113, 117, 101, 101], [111, 98, 106, 101, 99, 116], [116, 97, 98, 108, 101], [116, 100], [116, 101, 109, 112, 108, 97, 116, 101], [116, 104], [98, 117, 116, 116, 111, 110]]
def impN : List (List UInt8) := [[100, 100], [100, 116], [108, 105], [111, 112, 116, 103, 114, 111, 117, 112], [111, 112, 116, 105, 111, 110], [112], [114, 98], [114, 112], [114, 116], [114, 116, 99]]
def endN : List (List UInt8) := [[104, 116, 109, 108], [116, 101, 109, 112, 108, 97, 116, 101]]
def adpN : List (List UInt8) := [[97, 100, 100, 114, 101, 115, 115], [100, 105, 118], [112]]
/-- An open element. -/
structure E where
  id : Int
  space : Nat
  name : List UInt8
  point : Nat
def specialB (sp : Nat) (n : List UInt8) : Bool := if sp = 0 then specH.contains n else if sp = 2 then specM.contains n else if sp = 1 then specS.contains n else false
def formatB (n : List UInt8) : Bool := fmtN.contains n
def oneB (x : E) (ns : List (List UInt8)) : Bool := decide (x.space = 0) && ns.contains x.name
def boundN (sc : Nat) : List (List UInt8) := if sc = 1 then listN else if sc = 2 then butN else allN
def boundB (x : E) (sc : Nat) : Bool := if sc = 3 then oneB x tabN else if x.space ≠ 0 then specialB x.space x.name else (boundN sc).contains x.name
def inB (l : List E) (sc : Nat) (ns : List (List UInt8)) : Nat → Bool
  | 0 => false
  | n + 1 => match l[n]? with
    | none => false
    | some x => if oneB x ns then true else if boundB x sc then false else inB l sc ns n
def impliedN (l : List E) (ex : List UInt8) : Nat → Nat
  | 0 => 0
  | n + 1 => match l[n]? with
    | none => n + 1
    | some x => if x.name ≠ ex ∧ oneB x impN = true then impliedN l ex n else n + 1
def untilI (l : List E) (ns : List (List UInt8)) : Nat → Int
  | 0 => -1
  | n + 1 => match l[n]? with
    | none => -1
    | some x => if oneB x ns then (n : Int) else untilI l ns n
def clearN (l : List E) (ns : List (List UInt8)) : Nat → Nat
  | 0 => 0
  | n + 1 => match l[n]? with
    | none => n + 1
    | some x => if oneB x ns = false ∧ oneB x endN = false then clearN l ns n else n + 1
def itemI (l : List E) (ns : List (List UInt8)) : Nat → Int
  | 0 => -1
  | n + 1 => match l[n]? with
    | none => -1
    | some x => if oneB x ns then (n : Int) else if specialB x.space x.name && !oneB x adpN then -1 else itemI l ns n
/-! ### Steps -/
section
variable {l : List E} {n : Nat} {x : E} (hx : l[n]? = some x)
include hx
theorem inB_step (sc : Nat) (ns : List (List UInt8)) : inB l sc ns (n + 1) = if oneB x ns then true else if boundB x sc then false else inB l sc ns n := by simp [inB, hx]
theorem impliedN_step (ex : List UInt8) : impliedN l ex (n + 1) = if x.name ≠ ex ∧ oneB x impN = true then impliedN l ex n else n + 1 := by simp [impliedN, hx]
theorem untilI_step (ns : List (List UInt8)) : untilI l ns (n + 1) = if oneB x ns then (n : Int) else untilI l ns n := by simp [untilI, hx]
theorem clearN_step (ns : List (List UInt8)) : clearN l ns (n + 1) = if oneB x ns = false ∧ oneB x endN = false then clearN l ns n else n + 1 := by simp [clearN, hx]
theorem itemI_step (ns : List (List UInt8)) : itemI l ns (n + 1) = if oneB x ns then (n : Int) else if specialB x.space x.name && !oneB x adpN then -1 else itemI l ns n := by simp [itemI, hx]
end
/-! ### What the statement OpenScopes says -/
theorem impliedN_le (l : List E) (ex : List UInt8) : ∀ n, impliedN l ex n ≤ n
  | 0 => Nat.le_refl _
  | n + 1 => by
    unfold impliedN
    split
    · exact Nat.le_refl _
    · split
      · exact Nat.le_succ_of_le (impliedN_le l ex n)
      · exact Nat.le_refl _
theorem clearN_le (l : List E) (ns : List (List UInt8)) : ∀ n, clearN l ns n ≤ n
  | 0 => Nat.le_refl _
  | n + 1 => by
    unfold clearN
    split
    · exact Nat.le_refl _
    · split
      · exact Nat.le_succ_of_le (clearN_le l ns n)
      · exact Nat.le_refl _
theorem untilI_lt (l : List E) (ns : List (List UInt8)) : ∀ n : Nat, untilI l ns n < n ∧ -1 ≤ untilI l ns n
  | 0 => ⟨by show (-1 : Int) < 0; omega, Int.le_refl _⟩
  | n + 1 => by
    have h := untilI_lt l ns n
    unfold untilI
    split
    · omega
    · split <;> omega
theorem itemI_lt (l : List E) (ns : List (List UInt8)) : ∀ n : Nat, itemI l ns n < n ∧ -1 ≤ itemI l ns n
  | 0 => ⟨by show (-1 : Int) < 0; omega, Int.le_refl _⟩
  | n + 1 => by
    have h := itemI_lt l ns n
    unfold itemI
    split
    · omega
    · split
      · omega
      · split <;> omega
theorem itemI_until (l : List E) (ns : List (List UInt8)) : ∀ n : Nat, itemI l ns n = -1 ∨ itemI l ns n = untilI l ns n
  | 0 => .inl rfl
  | n + 1 => by
    have h := itemI_until l ns n
    unfold itemI untilI
    split
    · exact .inl rfl
    · split
      · exact .inr rfl
      · split
        · exact .inl rfl
        · exact h
theorem inB_until (l : List E) (sc : Nat) (ns : List (List UInt8)) : ∀ n : Nat, inB l sc ns n = true → 0 ≤ untilI l ns n
  | 0, h => by cases h
  | n + 1, h => by
    unfold inB at h
    unfold untilI
    split at h
    · cases h
    · rename_i x hx
      split at h
      · rename_i h1
        rw [if_pos h1]
        omega
      · rename_i h1
        rw [if_neg h1]
        split at h
        · cases h
        · exact inB_until l sc ns n h
theorem oneB_more (x : E) (ns : List (List UInt8)) (y : List UInt8) (h : oneB x ns = true) : oneB x (ns ++ [y]) = true := by
  simp [oneB] at h ⊢
  exact ⟨h.1, .inl h.2⟩
theorem inB_more (l : List E) (sc : Nat) (ns : List (List UInt8)) (y : List UInt8) : ∀ n : Nat, inB l sc ns n = true → inB l sc (ns ++ [y]) n = true
  | 0, h => h
  | n + 1, h => by
    unfold inB at h ⊢
    split at h
    · cases h
    · rename_i x hx
      split at h
      · rename_i h1
        rw [if_pos (oneB_more x ns y h1)]
      · split at h
        · cases h
        · rename_i h1 h2
          split
          · rfl
          · exact inB_more l sc ns y n h
theorem bound_all (x : E) (sc : Nat) (hs : sc = 1 ∨ sc = 2) (h : boundB x 0 = true) : boundB x sc = true := by
  unfold boundB at h ⊢
  rw [if_neg (by omega)] at h ⊢
  by_cases h0 : x.space ≠ 0
  · rw [if_pos h0] at h ⊢
    exact h
  · rw [if_neg h0] at h ⊢
    simp only [boundN, Nat.zero_ne_one, if_false, if_neg (show ¬ (0 : Nat) = 2 by omega)] at h
    rcases hs with rfl | rfl
    · simp only [boundN, if_true]
      have : x.name ∈ allN := List.contains_iff_mem.1 h
      exact List.contains_iff_mem.2 (List.mem_append_left [[111, 108], [117, 108]] this)
    · simp only [boundN, if_neg (show ¬ (2 : Nat) = 1 by omega), if_true]
      have : x.name ∈ allN := List.contains_iff_mem.1 h
      exact List.contains_iff_mem.2 (List.mem_append_left [[98, 117, 116, 116, 111, 110]] this)
theorem inB_all (l : List E) (sc : Nat) (hs : sc = 1 ∨ sc = 2) (ns : List (List UInt8)) : ∀ n : Nat, inB l sc ns n = true → inB l 0 ns n = true
  | 0, h => h
  | n + 1, h => by
    unfold inB at h ⊢
    split at h
    · cases h
    · rename_i x hx
      split at h
      · rename_i h1
        rw [if_pos h1]
      · split at h
        · cases h
        · rename_i h1 h2
          rw [if_neg h1, if_neg (fun h3 => h2 (bound_all x sc hs h3))]
          exact inB_all l sc hs ns n h
/-! ### What the statement OpenOrder says -/
/-- The same but for numbers and points. -/
def Like (l m : List E) : Prop := ∀ i : Nat, (l[i]?).map (fun x => (x.space, x.name)) = (m[i]?).map (fun x => (x.space, x.name))
theorem like_none {l m : List E} (h : Like l m) {n : Nat} (hl : l[n]? = none) : m[n]? = none := by
  have := h n
  rw [hl] at this
  cases hm : m[n]? with
  | none => rfl
  | some y => rw [hm] at this; cases this
theorem like_some {l m : List E} (h : Like l m) {n : Nat} {x : E} (hl : l[n]? = some x) : ∃ y, m[n]? = some y ∧ y.space = x.space ∧ y.name = x.name := by
  have := h n
  rw [hl] at this
  cases hm : m[n]? with
  | none => rw [hm] at this; cases this
  | some y =>
    rw [hm] at this
    simp at this
    exact ⟨y, rfl, this.1.symm, this.2.symm⟩
theorem oneB_back {x y : E} (h1 : y.space = x.space) (h2 : y.name = x.name) {ns ms : List (List UInt8)} (hm : ∀ s, s ∈ ms ↔ s ∈ ns) : oneB y ms = oneB x ns := by
  unfold oneB
  rw [h1, h2]
  congr 1
  rw [Bool.eq_iff_iff, List.contains_iff_mem, List.contains_iff_mem]
  exact hm _
theorem boundB_back {x y : E} (h1 : y.space = x.space) (h2 : y.name = x.name) (sc : Nat) : boundB y sc = boundB x sc := by
  unfold boundB oneB
  rw [h1, h2]
theorem inB_back {l m : List E} (h : Like l m) (sc : Nat) {ns ms : List (List UInt8)} (hm : ∀ s, s ∈ ms ↔ s ∈ ns) : ∀ n : Nat, inB m sc ms n = inB l sc ns n
  | 0 => rfl
  | n + 1 => by
    cases hl : l[n]? with
    | none => simp [inB, hl, like_none h hl]
    | some x =>
      obtain ⟨y, hy, h1, h2⟩ := like_some h hl
      rw [inB_step hl, inB_step hy, oneB_back h1 h2 hm, boundB_back h1 h2, inB_back h sc hm n]
theorem impliedN_back {l m : List E} (h : Like l m) (ex : List UInt8) : ∀ n : Nat, impliedN m ex n = impliedN l ex n
  | 0 => rfl
  | n + 1 => by
    cases hl : l[n]? with
    | none => simp [impliedN, hl, like_none h hl]
    | some x =>
      obtain ⟨y, hy, h1, h2⟩ := like_some h hl
      rw [impliedN_step hl, impliedN_step hy, oneB_back h1 h2 (fun s => Iff.rfl), h2, impliedN_back h ex n]
theorem untilI_back {l m : List E} (h : Like l m) {ns ms : List (List UInt8)} (hm : ∀ s, s ∈ ms ↔ s ∈ ns) : ∀ n : Nat, untilI m ms n = untilI l ns n
  | 0 => rfl
  | n + 1 => by
    cases hl : l[n]? with
    | none => simp [untilI, hl, like_none h hl]
    | some x =>
      obtain ⟨y, hy, h1, h2⟩ := like_some h hl
      rw [untilI_step hl, untilI_step hy, oneB_back h1 h2 hm, untilI_back h hm n]
theorem clearN_back {l m : List E} (h : Like l m) {ns ms : List (List UInt8)} (hm : ∀ s, s ∈ ms ↔ s ∈ ns) : ∀ n : Nat, clearN m ms n = clearN l ns n
  | 0 => rfl
  | n + 1 => by
    cases hl : l[n]? with
    | none => simp [clearN, hl, like_none h hl]
    | some x =>
      obtain ⟨y, hy, h1, h2⟩ := like_some h hl
      rw [clearN_step hl, clearN_step hy, oneB_back h1 h2 hm, oneB_back h1 h2 (fun s => Iff.rfl), clearN_back h hm n]
theorem itemI_back {l m : List E} (h : Like l m) {ns ms : List (List UInt8)} (hm : ∀ s, s ∈ ms ↔ s ∈ ns) : ∀ n : Nat, itemI m ms n = itemI l ns n
  | 0 => rfl
  | n + 1 => by
    cases hl : l[n]? with
    | none => simp [itemI, hl, like_none h hl]
    | some x =>
      obtain ⟨y, hy, h1, h2⟩ := like_some h hl
      rw [itemI_step hl, itemI_step hy, oneB_back h1 h2 hm, oneB_back h1 h2 (fun s => Iff.rfl), h1, h2, itemI_back h hm n]
end Go.Proofs.Ytmgbjkekfejnfaa.Opn
