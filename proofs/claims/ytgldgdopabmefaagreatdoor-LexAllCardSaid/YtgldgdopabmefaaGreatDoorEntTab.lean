/- Plain Lean: names of characters: the table, the longest name that bytes begin with, and how it is found by length. Nothing of a program stands here. -/
import Derived.Test.YtgldgdopabmefaaGreatDoorRunes
namespace Go.Proofs.YtgldgdopabmefaaGreatDoor.Ent
open Go.Lib U8
set_option maxRecDepth 100000
set_option linter.unusedVariables false

/-- A name, one character or two (0: no second one), and whether it counts without its sign. -/
abbrev Row := List UInt8 × Nat × Nat × Bool
def nm (r : Row) : List UInt8 := r.1
def one1 (r : Row) : Nat := r.2.1
def two1 (r : Row) : Nat := r.2.2.1
def bare (r : Row) : Bool := r.2.2.2
def tab : List Row :=
  [([97, 109, 112], 38, 0, true), ([65, 77, 80], 38, 0, true), ([108, 116], 60, 0, true),
   ([76, 84], 60, 0, true), ([103, 116], 62, 0, true), ([71, 84], 62, 0, true),
   ([113, 117, 111, 116], 34, 0, true), ([81, 85, 79, 84], 34, 0, true), ([110, 98, 115, 112], 160, 0, true),
   ([99, 111, 112, 121], 169, 0, true), ([67, 79, 80, 89], 169, 0, true), ([114, 101, 103], 174, 0, true),
   ([110, 111, 116], 172, 0, true), ([112, 97, 114, 97], 182, 0, true), ([115, 101, 99, 116], 167, 0, true),
   ([99, 101, 110, 116], 162, 0, true), ([112, 111, 117, 110, 100], 163, 0, true), ([121, 101, 110], 165, 0, true),
   ([100, 101, 103], 176, 0, true), ([109, 105, 99, 114, 111], 181, 0, true), ([116, 105, 109, 101, 115], 215, 0, true),
   ([100, 105, 118, 105, 100, 101], 247, 0, true), ([102, 114, 97, 99, 49, 50], 189, 0, true), ([108, 97, 113, 117, 111], 171, 0, true),
   ([114, 97, 113, 117, 111], 187, 0, true), ([105, 101, 120, 99, 108], 161, 0, true), ([105, 113, 117, 101, 115, 116], 191, 0, true),
   ([109, 105, 100, 100, 111, 116], 183, 0, true), ([112, 108, 117, 115, 109, 110], 177, 0, true), ([101, 97, 99, 117, 116, 101], 233, 0, true),
   ([69, 97, 99, 117, 116, 101], 201, 0, true), ([97, 103, 114, 97, 118, 101], 224, 0, true), ([99, 99, 101, 100, 105, 108], 231, 0, true),
   ([111, 117, 109, 108], 246, 0, true), ([79, 117, 109, 108], 214, 0, true), ([97, 117, 109, 108], 228, 0, true),
   ([65, 117, 109, 108], 196, 0, true), ([117, 117, 109, 108], 252, 0, true), ([85, 117, 109, 108], 220, 0, true),
   ([115, 122, 108, 105, 103], 223, 0, true), ([110, 116, 105, 108, 100, 101], 241, 0, true), ([115, 104, 121], 173, 0, true),
   ([97, 112, 111, 115], 39, 0, false), ([104, 101, 108, 108, 105, 112], 8230, 0, false), ([109, 100, 97, 115, 104], 8212, 0, false),
   ([110, 100, 97, 115, 104], 8211, 0, false), ([108, 115, 113, 117, 111], 8216, 0, false), ([114, 115, 113, 117, 111], 8217, 0, false),
   ([108, 100, 113, 117, 111], 8220, 0, false), ([114, 100, 113, 117, 111], 8221, 0, false), ([98, 117, 108, 108], 8226, 0, false),
   ([101, 117, 114, 111], 8364, 0, false), ([116, 114, 97, 100, 101], 8482, 0, false), ([108, 97, 114, 114], 8592, 0, false),
   ([114, 97, 114, 114], 8594, 0, false), ([104, 97, 114, 114], 8596, 0, false), ([105, 110, 102, 105, 110], 8734, 0, false),
   ([110, 101], 8800, 0, false), ([108, 101], 8804, 0, false), ([103, 101], 8805, 0, false),
   ([115, 117, 109], 8721, 0, false), ([112, 114, 111, 100], 8719, 0, false), ([114, 97, 100, 105, 99], 8730, 0, false),
   ([110, 111, 116, 105, 110], 8713, 0, false), ([97, 108, 112, 104, 97], 945, 0, false), ([98, 101, 116, 97], 946, 0, false),
   ([103, 97, 109, 109, 97], 947, 0, false), ([100, 101, 108, 116, 97], 948, 0, false), ([101, 112, 115, 105, 108, 111, 110], 949, 0, false),
   ([108, 97, 109, 98, 100, 97], 955, 0, false), ([109, 117], 956, 0, false), ([112, 105], 960, 0, false),
   ([115, 105, 103, 109, 97], 963, 0, false), ([111, 109, 101, 103, 97], 969, 0, false), ([79, 109, 101, 103, 97], 937, 0, false),
   ([83, 105, 103, 109, 97], 931, 0, false), ([108, 98, 114, 97, 99, 101], 123, 0, false), ([114, 98, 114, 97, 99, 101], 125, 0, false),
   ([108, 98, 114, 97, 99, 107], 91, 0, false), ([114, 98, 114, 97, 99, 107], 93, 0, false), ([108, 112, 97, 114], 40, 0, false),
   ([114, 112, 97, 114], 41, 0, false), ([97, 115, 116], 42, 0, false), ([110, 117, 109], 35, 0, false),
   ([115, 111, 108], 47, 0, false), ([98, 115, 111, 108], 92, 0, false), ([99, 111, 108, 111, 110], 58, 0, false),
   ([115, 101, 109, 105], 59, 0, false), ([101, 120, 99, 108], 33, 0, false), ([101, 113, 117, 97, 108, 115], 61, 0, false),
   ([103, 114, 97, 118, 101], 96, 0, false), ([108, 111, 119, 98, 97, 114], 95, 0, false), ([118, 101, 114, 116], 124, 0, false),
   ([84, 97, 98], 9, 0, false), ([78, 101, 119, 76, 105, 110, 101], 10, 0, false), ([110, 103, 69], 8807, 824, false),
   ([110, 118, 108, 116], 60, 8402, false), ([97, 99, 69], 8766, 819, false)]
def part0 : List Row :=
  [([65, 77, 80], 38, 0, true), ([76, 84], 60, 0, true), ([71, 84], 62, 0, true),
   ([81, 85, 79, 84], 34, 0, true), ([67, 79, 80, 89], 169, 0, true), ([65, 117, 109, 108], 196, 0, true),
   ([69, 97, 99, 117, 116, 101], 201, 0, true), ([79, 117, 109, 108], 214, 0, true), ([85, 117, 109, 108], 220, 0, true),
   ([79, 109, 101, 103, 97], 937, 0, false), ([83, 105, 103, 109, 97], 931, 0, false), ([84, 97, 98], 9, 0, false),
   ([78, 101, 119, 76, 105, 110, 101], 10, 0, false)]
def part1 : List Row :=
  [([97, 109, 112], 38, 0, true), ([97, 103, 114, 97, 118, 101], 224, 0, true), ([97, 117, 109, 108], 228, 0, true),
   ([97, 112, 111, 115], 39, 0, false), ([97, 108, 112, 104, 97], 945, 0, false), ([97, 115, 116], 42, 0, false),
   ([97, 99, 69], 8766, 819, false), ([98, 117, 108, 108], 8226, 0, false), ([98, 101, 116, 97], 946, 0, false),
   ([98, 115, 111, 108], 92, 0, false), ([99, 111, 112, 121], 169, 0, true), ([99, 101, 110, 116], 162, 0, true),
   ([99, 99, 101, 100, 105, 108], 231, 0, true), ([99, 111, 108, 111, 110], 58, 0, false), ([100, 101, 103], 176, 0, true),
   ([100, 105, 118, 105, 100, 101], 247, 0, true), ([100, 101, 108, 116, 97], 948, 0, false)]
def part2 : List Row :=
  [([101, 97, 99, 117, 116, 101], 233, 0, true), ([101, 117, 114, 111], 8364, 0, false), ([101, 112, 115, 105, 108, 111, 110], 949, 0, false),
   ([101, 120, 99, 108], 33, 0, false), ([101, 113, 117, 97, 108, 115], 61, 0, false), ([102, 114, 97, 99, 49, 50], 189, 0, true),
   ([103, 116], 62, 0, true), ([103, 101], 8805, 0, false), ([103, 97, 109, 109, 97], 947, 0, false),
   ([103, 114, 97, 118, 101], 96, 0, false), ([104, 101, 108, 108, 105, 112], 8230, 0, false), ([104, 97, 114, 114], 8596, 0, false),
   ([105, 101, 120, 99, 108], 161, 0, true), ([105, 113, 117, 101, 115, 116], 191, 0, true), ([105, 110, 102, 105, 110], 8734, 0, false)]
def part3 : List Row :=
  [([108, 116], 60, 0, true), ([108, 97, 113, 117, 111], 171, 0, true), ([108, 115, 113, 117, 111], 8216, 0, false),
   ([108, 100, 113, 117, 111], 8220, 0, false), ([108, 97, 114, 114], 8592, 0, false), ([108, 101], 8804, 0, false),
   ([108, 97, 109, 98, 100, 97], 955, 0, false), ([108, 98, 114, 97, 99, 101], 123, 0, false), ([108, 98, 114, 97, 99, 107], 91, 0, false),
   ([108, 112, 97, 114], 40, 0, false), ([108, 111, 119, 98, 97, 114], 95, 0, false)]
def part4 : List Row :=
  [([109, 105, 99, 114, 111], 181, 0, true), ([109, 105, 100, 100, 111, 116], 183, 0, true), ([109, 100, 97, 115, 104], 8212, 0, false),
   ([109, 117], 956, 0, false), ([110, 98, 115, 112], 160, 0, true), ([110, 111, 116], 172, 0, true),
   ([110, 116, 105, 108, 100, 101], 241, 0, true), ([110, 100, 97, 115, 104], 8211, 0, false), ([110, 101], 8800, 0, false),
   ([110, 111, 116, 105, 110], 8713, 0, false), ([110, 117, 109], 35, 0, false), ([110, 103, 69], 8807, 824, false),
   ([110, 118, 108, 116], 60, 8402, false)]
def part5 : List Row :=
  [([111, 117, 109, 108], 246, 0, true), ([111, 109, 101, 103, 97], 969, 0, false), ([112, 97, 114, 97], 182, 0, true),
   ([112, 111, 117, 110, 100], 163, 0, true), ([112, 108, 117, 115, 109, 110], 177, 0, true), ([112, 114, 111, 100], 8719, 0, false),
   ([112, 105], 960, 0, false), ([113, 117, 111, 116], 34, 0, true), ([114, 101, 103], 174, 0, true),
   ([114, 97, 113, 117, 111], 187, 0, true), ([114, 115, 113, 117, 111], 8217, 0, false), ([114, 100, 113, 117, 111], 8221, 0, false),
   ([114, 97, 114, 114], 8594, 0, false), ([114, 97, 100, 105, 99], 8730, 0, false), ([114, 98, 114, 97, 99, 101], 125, 0, false),
   ([114, 98, 114, 97, 99, 107], 93, 0, false), ([114, 112, 97, 114], 41, 0, false)]
def part6 : List Row :=
  [([115, 101, 99, 116], 167, 0, true), ([115, 122, 108, 105, 103], 223, 0, true), ([115, 104, 121], 173, 0, true),
   ([115, 117, 109], 8721, 0, false), ([115, 105, 103, 109, 97], 963, 0, false), ([115, 111, 108], 47, 0, false),
   ([115, 101, 109, 105], 59, 0, false), ([116, 105, 109, 101, 115], 215, 0, true), ([116, 114, 97, 100, 101], 8482, 0, false),
   ([117, 117, 109, 108], 252, 0, true), ([118, 101, 114, 116], 124, 0, false), ([121, 101, 110], 165, 0, true)]
/-- The names among which the program looks for one that begins with the byte c. -/
def sub (c : Nat) : List Row := if c ≤ 90 then part0 else if c ≤ 100 then part1 else if c ≤ 105 then part2 else if c ≤ 108 then part3 else if c ≤ 110 then part4 else if c ≤ 114 then part5 else part6
/-- What a name stands for. -/
def textOf (a b : Nat) : List UInt8 := encN a ++ (if b = 0 then [] else encN b)
def isOf (r : Row) : List UInt8 := textOf (one1 r) (two1 r)

/-! ### what the table is -/
theorem tab_nodup : ∀ r ∈ tab, ∀ r' ∈ tab, nm r = nm r' → r = r' := by decide +kernel
theorem tab_len : ∀ r ∈ tab, 1 ≤ (nm r).length ∧ (nm r).length ≤ 7 := by decide +kernel
theorem tab_sign : ∀ r ∈ tab, (nm r).contains 59 = false ∧ (nm r).contains 32 = false := by decide +kernel
theorem tab_ascii : ∀ r ∈ tab, ∀ c ∈ nm r, 65 ≤ c.toNat ∧ c.toNat ≤ 122 ∨ 48 ≤ c.toNat ∧ c.toNat ≤ 57 := by decide +kernel
theorem tab_letter : ∀ r ∈ tab, (97 ≤ B (nm r) 0 ∧ B (nm r) 0 ≤ 122) ∨ (65 ≤ B (nm r) 0 ∧ B (nm r) 0 ≤ 90) := by decide +kernel
theorem tab_chars : ∀ r ∈ tab, (1 ≤ one1 r ∧ one1 r < 55296) ∧ (two1 r < 55296) := by decide +kernel
theorem tab_size : tab.length = 98 := rfl
theorem tab_txt : ∀ r ∈ tab, (isOf r).length ≤ 7 := by decide +kernel
theorem in0 : (∀ r ∈ part0, r ∈ tab ∧ B (nm r) 0 ≤ 90) ∧ ∀ r ∈ tab, B (nm r) 0 ≤ 90 → r ∈ part0 := by decide +kernel
theorem in1 : (∀ r ∈ part1, r ∈ tab) ∧ ∀ r ∈ tab, 90 < B (nm r) 0 ∧ B (nm r) 0 ≤ 100 → r ∈ part1 := by decide +kernel
theorem in2 : (∀ r ∈ part2, r ∈ tab) ∧ ∀ r ∈ tab, 100 < B (nm r) 0 ∧ B (nm r) 0 ≤ 105 → r ∈ part2 := by decide +kernel
theorem in3 : (∀ r ∈ part3, r ∈ tab) ∧ ∀ r ∈ tab, 105 < B (nm r) 0 ∧ B (nm r) 0 ≤ 108 → r ∈ part3 := by decide +kernel
theorem in4 : (∀ r ∈ part4, r ∈ tab) ∧ ∀ r ∈ tab, 108 < B (nm r) 0 ∧ B (nm r) 0 ≤ 110 → r ∈ part4 := by decide +kernel
theorem in5 : (∀ r ∈ part5, r ∈ tab) ∧ ∀ r ∈ tab, 110 < B (nm r) 0 ∧ B (nm r) 0 ≤ 114 → r ∈ part5 := by decide +kernel
theorem in6 : (∀ r ∈ part6, r ∈ tab) ∧ ∀ r ∈ tab, 114 < B (nm r) 0 → r ∈ part6 := by decide +kernel
theorem in_sub (c : Nat) : (∀ r ∈ sub c, r ∈ tab) ∧ ∀ r ∈ tab, B (nm r) 0 = c → r ∈ sub c := by
  unfold sub
  split
  · exact ⟨fun r h => (in0.1 r h).1, fun r h e => in0.2 r h (by omega)⟩
  split
  · exact ⟨in1.1, fun r h e => in1.2 r h ⟨by omega, by omega⟩⟩
  split
  · exact ⟨in2.1, fun r h e => in2.2 r h ⟨by omega, by omega⟩⟩
  split
  · exact ⟨in3.1, fun r h e => in3.2 r h ⟨by omega, by omega⟩⟩
  split
  · exact ⟨in4.1, fun r h e => in4.2 r h ⟨by omega, by omega⟩⟩
  split
  · exact ⟨in5.1, fun r h e => in5.2 r h ⟨by omega, by omega⟩⟩
  · exact ⟨in6.1, fun r h e => in6.2 r h (by omega)⟩

/-! ### looking a name up -/
def look (t : List Row) (k : List UInt8) : Option Row := t.find? (fun r => nm r == k)
theorem look_some {t : List Row} {k : List UInt8} {r : Row} (h : look t k = some r) : r ∈ t ∧ nm r = k := by
  unfold look at h
  exact ⟨List.mem_of_find?_eq_some h, by simpa using List.find?_some h⟩
theorem look_none {t : List Row} {k : List UInt8} (h : look t k = none) : ∀ r ∈ t, nm r ≠ k := by
  unfold look at h
  rw [List.find?_eq_none] at h
  exact fun r hr e => h r hr (by simpa using e)
/-- In the part for its first byte, a row is found just where it is one of the table's. -/
theorem look_sub {k : List UInt8} {r : Row} (h : look (sub (B k 0)) k = some r) : r ∈ tab ∧ nm r = k :=
  ⟨(in_sub _).1 r (look_some h).1, (look_some h).2⟩
theorem look_sub_none {k : List UInt8} (h : look (sub (B k 0)) k = none) : ∀ r ∈ tab, nm r ≠ k :=
  fun r hr e => look_none h r ((in_sub _).2 r hr (by rw [e])) e

/-! ### the longest name -/
/-- The row r tells w bytes that l begins with. -/
def Cand (l : List UInt8) (r : Row) (w : Nat) : Prop := (w = (nm r).length + 1 ∧ nm r ++ [59] <+: l) ∨ (bare r = true ∧ w = (nm r).length ∧ nm r <+: l)
theorem Cand.le {l : List UInt8} {r : Row} {w : Nat} (h : Cand l r w) : w ≤ l.length := by
  rcases h with ⟨rfl, h⟩ | ⟨_, rfl, h⟩
  · have := h.length_le; simpa using this
  · exact h.length_le
theorem Cand.pre {l : List UInt8} {r : Row} {w : Nat} (h : Cand l r w) : nm r <+: l := by
  rcases h with ⟨rfl, h⟩ | ⟨_, rfl, h⟩
  · exact (List.prefix_append _ _).trans h
  · exact h
theorem Cand.wd {l : List UInt8} {r : Row} {w : Nat} (h : Cand l r w) : (nm r).length ≤ w ∧ w ≤ (nm r).length + 1 := by
  rcases h with ⟨rfl, h⟩ | ⟨_, rfl, h⟩ <;> omega
theorem pre_take {p l : List UInt8} (h : p <+: l) : p = l.take p.length := List.prefix_iff_eq_take.1 h
theorem sign_mem {p : List UInt8} (h : p.contains 59 = false) (h2 : (59 : UInt8) ∈ p) : False := by
  rw [List.contains_eq_mem] at h; simp [h2] at h
/-- One row for one width. -/
theorem cand_one {l : List UInt8} {r r' : Row} {w : Nat} (hr : r ∈ tab) (hr' : r' ∈ tab) (h : Cand l r w) (h' : Cand l r' w) : r = r' := by
  rcases h with ⟨e, h⟩ | ⟨_, e, h⟩ <;> rcases h' with ⟨e', h'⟩ | ⟨_, e', h'⟩
  · apply tab_nodup r hr r' hr'
    have h1 := pre_take h; have h2 := pre_take h'
    have e1 : (nm r ++ [59]).length = (nm r' ++ [59]).length := by simp; omega
    rw [e1, ← h2] at h1
    exact List.append_cancel_right h1
  · exfalso
    have h1 := pre_take h; have h2 := pre_take h'
    have e1 : (nm r ++ [59]).length = (nm r').length := by simp; omega
    rw [e1, ← h2] at h1
    exact sign_mem (tab_sign r' hr').1 (by rw [← h1]; simp)
  · exfalso
    have h1 := pre_take h; have h2 := pre_take h'
    have e1 : (nm r' ++ [59]).length = (nm r).length := by simp; omega
    rw [e1, ← h1] at h2
    exact sign_mem (tab_sign r hr).1 (by rw [← h2]; simp)
  · apply tab_nodup r hr r' hr'
    have h1 := pre_take h; have h2 := pre_take h'
    rw [h1, h2]
    congr 1
    omega
/-- Of these rows, this is the longest that l begins with. -/
def BestOf (t : Row → Prop) (l is : List UInt8) (w : Nat) : Prop :=
  (w = 0 ∧ is = [] ∧ ∀ r, t r → ∀ w', ¬ Cand l r w') ∨ (∃ r, t r ∧ Cand l r w ∧ is = isOf r ∧ ∀ r', t r' → ∀ w', Cand l r' w' → w' ≤ w)
def Best (l is : List UInt8) (w : Nat) : Prop := BestOf (· ∈ tab) l is w
theorem best_one {l i i' : List UInt8} {w w' : Nat} (h : Best l i w) (h' : Best l i' w') : i = i' ∧ w = w' := by
  rcases h with ⟨rfl, rfl, h⟩ | ⟨r, hr, hc, rfl, h⟩ <;> rcases h' with ⟨rfl, rfl, h'⟩ | ⟨r', hr', hc', rfl, h'⟩
  · exact ⟨rfl, rfl⟩
  · exact absurd hc' (h r' hr' _)
  · exact absurd hc (h' r hr _)
  · have e : w = w' := Nat.le_antisymm (h' r hr _ hc) (h r' hr' _ hc')
    subst e
    rw [cand_one hr hr' hc hc']
    exact ⟨rfl, rfl⟩

/-! ### found row by row -/
def stepN (l : List UInt8) (acc : List UInt8 × Nat) (r : Row) : List UInt8 × Nat :=
  let a := if (nm r ++ [59]).isPrefixOf l = true ∧ acc.2 < (nm r).length + 1 then (isOf r, (nm r).length + 1) else acc
  if bare r = true ∧ (nm r).isPrefixOf l = true ∧ a.2 < (nm r).length then (isOf r, (nm r).length) else a
def named (l : List UInt8) : List UInt8 × Nat := tab.foldl (stepN l) ([], 0)
theorem stepN_best {t : Row → Prop} {l : List UInt8} {acc : List UInt8 × Nat} {r : Row} (hr : 1 ≤ (nm r).length) (h : BestOf t l acc.1 acc.2) : BestOf (fun x => t x ∨ x = r) l (stepN l acc r).1 (stepN l acc r).2 := by
  obtain ⟨ai, aw⟩ := acc
  have key : ∀ (i : List UInt8) (w : Nat), BestOf t l ai aw → (i = isOf r ∧ Cand l r w ∧ aw ≤ w ∧ ∀ w', Cand l r w' → w' ≤ w) → BestOf (fun x => t x ∨ x = r) l i w := by
    rintro i w h ⟨rfl, hc, hle, hm⟩
    refine .inr ⟨r, .inr rfl, hc, rfl, ?_⟩
    rintro r' (hr' | rfl) w' hc'
    · rcases h with ⟨_, _, h⟩ | ⟨r0, _, _, _, h⟩
      · exact absurd hc' (h r' hr' _)
      · have := h r' hr' _ hc'; omega
    · exact hm w' hc'
  have keep : ∀ (i : List UInt8) (w : Nat), BestOf t l i w → (∀ w', Cand l r w' → w' ≤ w) → BestOf (fun x => t x ∨ x = r) l i w := by
    rintro i w h hm
    rcases h with ⟨rfl, rfl, h⟩ | ⟨r0, h0, hc0, rfl, h⟩
    · refine .inl ⟨rfl, rfl, ?_⟩
      rintro r' (hr' | rfl) w' hc'
      · exact h r' hr' w' hc'
      · have := hm w' hc'; have := hc'.wd; omega
    · refine .inr ⟨r0, .inl h0, hc0, rfl, ?_⟩
      rintro r' (hr' | rfl) w' hc'
      · exact h r' hr' w' hc'
      · exact hm w' hc'
  unfold stepN
  simp only
  by_cases h1 : (nm r ++ [59]).isPrefixOf l = true
  · have c1 : Cand l r ((nm r).length + 1) := .inl ⟨rfl, List.isPrefixOf_iff_prefix.1 h1⟩
    by_cases h2 : aw < (nm r).length + 1
    · have e1 : (if (nm r ++ [59]).isPrefixOf l = true ∧ aw < (nm r).length + 1 then (isOf r, (nm r).length + 1) else (ai, aw)) = (isOf r, (nm r).length + 1) := if_pos ⟨h1, h2⟩
      rw [e1, if_neg (fun x => absurd x.2.2 (by simp only; omega))]
      exact key _ _ h ⟨rfl, c1, by omega, fun w' hc' => hc'.wd.2⟩
    · have e1 : (if (nm r ++ [59]).isPrefixOf l = true ∧ aw < (nm r).length + 1 then (isOf r, (nm r).length + 1) else (ai, aw)) = (ai, aw) := if_neg (fun x => h2 x.2)
      rw [e1, if_neg (fun x => absurd x.2.2 (by simp only; omega))]
      exact keep _ _ h (fun w' hc' => by have := hc'.wd.2; simp only at this ⊢; omega)
  · have e1 : (if (nm r ++ [59]).isPrefixOf l = true ∧ aw < (nm r).length + 1 then (isOf r, (nm r).length + 1) else (ai, aw)) = (ai, aw) := if_neg (fun x => h1 x.1)
    rw [e1]
    have hno : ∀ w', Cand l r w' → bare r = true ∧ w' = (nm r).length ∧ nm r <+: l := fun w' hc' => hc'.elim (fun x => absurd (List.isPrefixOf_iff_prefix.2 x.2) h1) id
    by_cases h2 : bare r = true ∧ (nm r).isPrefixOf l = true ∧ aw < (nm r).length
    · rw [if_pos h2]
      exact key _ _ h ⟨rfl, .inr ⟨h2.1, rfl, List.isPrefixOf_iff_prefix.1 h2.2.1⟩, by simp only; omega, fun w' hc' => by have := (hno w' hc').2.1; simp only; omega⟩
    · rw [if_neg h2]
      refine keep _ _ h (fun w' hc' => ?_)
      obtain ⟨g1, g2, g3⟩ := hno w' hc'
      have : ¬ aw < (nm r).length := fun x => h2 ⟨g1, List.isPrefixOf_iff_prefix.2 g3, x⟩
      simp only; omega
theorem fold_best (l : List UInt8) : ∀ (s : List Row) (t : Row → Prop) (acc : List UInt8 × Nat), (∀ r ∈ s, 1 ≤ (nm r).length) → BestOf t l acc.1 acc.2 →
    BestOf (fun x => t x ∨ x ∈ s) l (s.foldl (stepN l) acc).1 (s.foldl (stepN l) acc).2
  | [], t, acc, _, h => by
    rw [show (fun x => t x ∨ x ∈ ([] : List Row)) = t by funext x; simp]
    exact h
  | r :: s, t, acc, hs, h => by
    have h1 := fold_best l s (fun x => t x ∨ x = r) (stepN l acc r) (fun x hx => hs x (List.mem_cons_of_mem _ hx)) (stepN_best (hs r (by simp)) h)
    rw [show (fun x => t x ∨ x ∈ r :: s) = (fun x => (t x ∨ x = r) ∨ x ∈ s) by funext x; simp [or_assoc]]
    exact h1
theorem named_best (l : List UInt8) : Best l (named l).1 (named l).2 := by
  have := fold_best l tab (fun _ => False) ([], 0) (fun r hr => (tab_len r hr).1) (.inl ⟨rfl, rfl, fun r hr => hr.elim⟩)
  rw [show (fun x => False ∨ x ∈ tab) = (fun x => x ∈ tab) by funext x; simp] at this
  exact this
theorem named_eq {l i : List UInt8} {w : Nat} (h : Best l i w) : named l = (i, w) := by
  obtain ⟨h1, h2⟩ := best_one (named_best l) h
  rw [← h1, ← h2]
/-- The rows ahead of one, and it. -/
theorem fold_take (l : List UInt8) (i : Nat) (h : i < tab.length) : (tab.take (i + 1)).foldl (stepN l) ([], 0) = stepN l ((tab.take i).foldl (stepN l) ([], 0)) (tab[i]) := by
  rw [List.take_succ_eq_append_getElem h, List.foldl_append]; rfl

/-! ### found by length -/
/-- Of the names shorter than n. -/
def ByLen (l : List UInt8) (n : Nat) (is : List UInt8) (w : Nat) : Prop := BestOf (fun r => r ∈ tab ∧ (nm r).length < n) l is w
theorem byLen_start (l : List UInt8) : ByLen l 1 [] 0 := .inl ⟨rfl, rfl, fun r hr => by have := tab_len r hr.1; omega⟩
theorem byLen_le {l is : List UInt8} {n w : Nat} (h : ByLen l n is w) : w ≤ n ∧ is.length ≤ 7 := by
  rcases h with ⟨rfl, rfl, _⟩ | ⟨r, hr, hc, rfl, _⟩
  · simp
  · have := hc.wd; exact ⟨by omega, tab_txt r hr.1⟩
theorem take_pre {l : List UInt8} {n : Nat} {r : Row} (h : nm r = l.take n) : nm r <+: l := by rw [h]; exact List.take_prefix _ _
theorem semi_pre {l : List UInt8} {n : Nat} {r : Row} (hn : n < l.length) (h : nm r = l.take n) : nm r ++ [59] <+: l ↔ B l n = 59 := by
  have hl : (nm r).length = n := by rw [h]; simp; omega
  constructor
  · intro hp
    have := pre_take hp
    have e : (nm r ++ [59]).length = n + 1 := by simp [hl]
    have e2 : B (nm r ++ [59]) n = 59 := by
      have := B_append_right (nm r) [59] 0
      rw [hl] at this
      exact this
    rw [this, e, B_take _ _ _ (by omega)] at e2
    exact e2
  · intro hb
    rw [h]
    have hx : l[n] = 59 := by
      apply UInt8.toNat_inj.1
      rw [B_eq (List.getElem?_eq_getElem hn)] at hb
      exact hb
    have : l.take (n + 1) = l.take n ++ [59] := by rw [List.take_succ_eq_append_getElem hn, hx]
    rw [← this]
    exact List.take_prefix _ _
theorem cand_len {l : List UInt8} {n : Nat} {r : Row} {w : Nat} (hn : n ≤ l.length) (hc : Cand l r w) (h : (nm r).length = n) : nm r = l.take n := by rw [pre_take hc.pre, h]
/-- No name has n bytes. -/
theorem byLen_none {l is : List UInt8} {n w : Nat} (hn : n ≤ l.length) (hno : ∀ r ∈ tab, nm r ≠ l.take n) (h : ByLen l n is w) : ByLen l (n + 1) is w := by
  have key : ∀ r, (r ∈ tab ∧ (nm r).length < n + 1) → ∀ w', Cand l r w' → (r ∈ tab ∧ (nm r).length < n) := fun r hr w' hc => ⟨hr.1, by
    have : ¬ (nm r).length = n := fun e => hno r hr.1 (cand_len hn hc e)
    omega⟩
  rcases h with ⟨rfl, rfl, h⟩ | ⟨r, hr, hc, rfl, h⟩
  · exact .inl ⟨rfl, rfl, fun r hr w' hc => h r (key r hr w' hc) w' hc⟩
  · exact .inr ⟨r, ⟨hr.1, by omega⟩, hc, rfl, fun r' hr' w' hc' => h r' (key r' hr' w' hc') w' hc'⟩
/-- A name of n bytes, with its sign behind it: no longer one is there. -/
theorem byLen_semi {l : List UInt8} {n : Nat} {r : Row} (hn : n < l.length) (hr : r ∈ tab) (he : nm r = l.take n) (hb : B l n = 59) : Best l (isOf r) (n + 1) := by
  have hl : (nm r).length = n := by rw [he]; simp; omega
  have hc : Cand l r (n + 1) := .inl ⟨by omega, (semi_pre hn he).2 hb⟩
  refine .inr ⟨r, hr, hc, rfl, fun r' hr' w' hc' => ?_⟩
  by_cases hlt : (nm r').length ≤ n
  · have := hc'.wd; omega
  · exfalso
    have e := pre_take hc'.pre
    have : B (nm r') n = 59 := by
      rw [e, B_take _ _ _ (by omega)]; exact hb
    refine sign_mem (tab_sign r' hr').1 ?_
    have hx : (nm r')[n]'(by omega) = 59 := by
      apply UInt8.toNat_inj.1
      rw [B_eq (List.getElem?_eq_getElem (by omega : n < (nm r').length))] at this
      exact this
    rw [← hx]
    exact List.getElem_mem _
/-- A name of n bytes without its sign. -/
theorem byLen_bare {l is : List UInt8} {n w : Nat} {r : Row} (hn : n ≤ l.length) (hr : r ∈ tab) (he : nm r = l.take n) (hb : ¬ (n < l.length ∧ B l n = 59)) (hbr : bare r = true) (h : ByLen l n is w) : ByLen l (n + 1) (isOf r) n := by
  have hl : (nm r).length = n := by rw [he]; simp; omega
  refine .inr ⟨r, ⟨hr, by omega⟩, .inr ⟨hbr, hl.symm, take_pre he⟩, rfl, fun r' hr' w' hc' => ?_⟩
  by_cases hlt : (nm r').length < n
  · have := hc'.wd; omega
  · have e : (nm r').length = n := by omega
    have he' := cand_len hn hc' e
    rcases hc' with ⟨rfl, hp⟩ | ⟨_, rfl, _⟩
    · exfalso
      have h1 := hp.length_le
      simp at h1
      exact hb ⟨by omega, (semi_pre (by omega) he').1 hp⟩
    · omega
theorem byLen_not {l is : List UInt8} {n w : Nat} {r : Row} (hn : n ≤ l.length) (hr : r ∈ tab) (he : nm r = l.take n) (hb : ¬ (n < l.length ∧ B l n = 59)) (hbr : bare r = false) (h : ByLen l n is w) : ByLen l (n + 1) is w := by
  have hl : (nm r).length = n := by rw [he]; simp; omega
  have key : ∀ r', (r' ∈ tab ∧ (nm r').length < n + 1) → ∀ w', Cand l r' w' → (r' ∈ tab ∧ (nm r').length < n) := fun r' hr' w' hc' => ⟨hr'.1, by
    by_cases e : (nm r').length = n
    · exfalso
      have he' := cand_len hn hc' e
      obtain rfl := tab_nodup r hr r' hr'.1 (by rw [he, he'])
      rcases hc' with ⟨rfl, hp⟩ | ⟨hx, _, _⟩
      · have h1 := hp.length_le
        simp at h1
        exact hb ⟨by omega, (semi_pre (by omega) he').1 hp⟩
      · rw [hbr] at hx; cases hx
    · omega⟩
  rcases h with ⟨rfl, rfl, h⟩ | ⟨r0, hr0, hc, rfl, h⟩
  · exact .inl ⟨rfl, rfl, fun r hr w' hc => h r (key r hr w' hc) w' hc⟩
  · exact .inr ⟨r0, ⟨hr0.1, by omega⟩, hc, rfl, fun r' hr' w' hc' => h r' (key r' hr' w' hc') w' hc'⟩
theorem byLen_end {l is : List UInt8} {n w : Nat} (hn : 7 < n ∨ l.length < n) (h : ByLen l n is w) : Best l is w := by
  have key : ∀ r, r ∈ tab → ∀ w', Cand l r w' → (r ∈ tab ∧ (nm r).length < n) := fun r hr w' hc => ⟨hr, by
    have h1 := tab_len r hr
    have h2 := hc.pre.length_le
    omega⟩
  rcases h with ⟨rfl, rfl, h⟩ | ⟨r, hr, hc, rfl, h⟩
  · exact .inl ⟨rfl, rfl, fun r hr w' hc => h r (key r hr w' hc) w' hc⟩
  · exact .inr ⟨r, hr.1, hc, rfl, fun r' hr' w' hc' => h r' (key r' hr' w' hc') w' hc'⟩
theorem best_none {l : List UInt8} (h : l = [] ∨ ¬ ((97 ≤ B l 0 ∧ B l 0 ≤ 122) ∨ (65 ≤ B l 0 ∧ B l 0 ≤ 90))) : Best l [] 0 := by
  refine .inl ⟨rfl, rfl, fun r hr w' hc => ?_⟩
  have h1 := tab_len r hr
  have h2 := hc.pre
  rcases h with rfl | h
  · have := h2.length_le; simp at this; rw [this] at h1; simp at h1
  · apply h
    have h3 := tab_letter r hr
    rw [pre_take h2, B_take _ _ _ (by omega)] at h3
    exact h3

/-! ### what the longest name is good for -/
theorem best_cases {l is : List UInt8} {w : Nat} (h : Best l is w) : w ≤ l.length ∧ w ≤ 8 ∧ is.length ≤ 7 ∧ (w = 0 ↔ is = []) := by
  rcases h with ⟨rfl, rfl, _⟩ | ⟨r, hr, hc, rfl, _⟩
  · simp
  · have h1 := hc.le; have h2 := hc.wd; have h3 := tab_len r hr
    refine ⟨h1, by omega, tab_txt r hr, ⟨fun e => by omega, fun e => ?_⟩⟩
    exfalso
    unfold isOf textOf at e
    exact encN_ne _ (List.append_eq_nil_iff.1 e).1
theorem named_cases (l : List UInt8) : (named l).2 ≤ l.length ∧ (named l).2 ≤ 8 ∧ (named l).1.length ≤ 7 ∧ ((named l).2 = 0 ↔ (named l).1 = []) := best_cases (named_best l)
theorem cand_take {l : List UInt8} {r : Row} {w n : Nat} (hw : w ≤ n) : Cand (l.take n) r w ↔ Cand l r w := by
  unfold Cand
  constructor
  · rintro (⟨e, h⟩ | ⟨hb, e, h⟩)
    · exact .inl ⟨e, h.trans (List.take_prefix _ _)⟩
    · exact .inr ⟨hb, e, h.trans (List.take_prefix _ _)⟩
  · rintro (⟨e, h⟩ | ⟨hb, e, h⟩)
    · refine .inl ⟨e, ?_⟩
      rw [List.prefix_take_iff]; exact ⟨h, by simp; omega⟩
    · refine .inr ⟨hb, e, ?_⟩
      rw [List.prefix_take_iff]; exact ⟨h, by omega⟩
theorem named_again (l : List UInt8) : named (l.take (named l).2) = named l := by
  have h := named_best l
  have hle := (named_cases l).1
  generalize named l = x at h hle ⊢
  obtain ⟨is, w⟩ := x
  simp only at h hle ⊢
  apply named_eq
  have hlen : (l.take w).length = w := by simp; omega
  rcases h with ⟨rfl, rfl, h⟩ | ⟨r, hr, hc, rfl, h⟩
  · exact .inl ⟨rfl, rfl, fun r hr w' hc => h r hr w' ((cand_take (by have := hc.le; rw [hlen] at this; omega)).1 hc)⟩
  · exact .inr ⟨r, hr, (cand_take (Nat.le_refl _)).2 hc, rfl, fun r' hr' w' hc' => by have := hc'.le; omega⟩
theorem named_blank (l : List UInt8) : named (l.take (named l).2 ++ [32]) = named l := by
  have h := named_best l
  have hle := (named_cases l).1
  generalize named l = x at h hle ⊢
  obtain ⟨is, w⟩ := x
  simp only at h hle ⊢
  apply named_eq
  have hlen : (l.take w).length = w := by simp; omega
  have hb : B (l.take w ++ [32]) w = 32 := by have := B_append_right (l.take w) [32] 0; rw [hlen] at this; exact this
  have key : ∀ r, r ∈ tab → ∀ w', Cand (l.take w ++ [32]) r w' → w' ≤ w ∧ Cand l r w' := by
    intro r hr w' hc
    have h1 := hc.le
    rw [List.length_append, hlen] at h1
    simp at h1
    have hw : w' ≤ w := by
      by_cases e : w' = w + 1
      · exfalso
        have hx : ∀ p : List UInt8, p <+: l.take w ++ [32] → p.length = w + 1 → B p w = 32 := fun p hp hl => by
          rw [pre_take hp, B_take _ _ _ (by omega)]; exact hb
        rcases hc with ⟨e1, hp⟩ | ⟨_, e1, hp⟩
        · have := hx _ hp (by simp; omega)
          have hl : (nm r).length = w := by omega
          have h2 := B_append_right (nm r) [59] 0
          rw [hl, Nat.add_zero, this] at h2
          exact absurd h2 (by decide)
        · have := hx _ hp (by omega)
          have hm : (32 : UInt8) ∈ nm r := by
            have hlt : w < (nm r).length := by omega
            have hy : (nm r)[w]'hlt = 32 := by
              apply UInt8.toNat_inj.1
              rw [B_eq (List.getElem?_eq_getElem hlt)] at this
              exact this
            rw [← hy]; exact List.getElem_mem _
          have := (tab_sign r hr).2
          rw [List.contains_eq_mem] at this; simp [hm] at this
      · omega
    refine ⟨hw, (cand_take hw).1 ?_⟩
    have h3 := (cand_take (l := l.take w ++ [32]) (r := r) (w := w') (n := w) hw).2 hc
    rw [List.take_append_of_le_length (by omega), List.take_take, Nat.min_self] at h3
    exact h3
  rcases h with ⟨rfl, rfl, h⟩ | ⟨r, hr, hc, rfl, h⟩
  · exact .inl ⟨rfl, rfl, fun r hr w' hc => h r hr w' (key r hr w' hc).2⟩
  · refine .inr ⟨r, hr, ?_, rfl, fun r' hr' w' hc' => (key r' hr' w' hc').1⟩
    have h3 := (cand_take (l := l.take w ++ [32]) (r := r) (w := w) (n := w) (Nat.le_refl _)).1
    apply h3
    rw [List.take_append_of_le_length (by omega), List.take_take, Nat.min_self]
    exact (cand_take (Nat.le_refl _)).2 hc
/-- A name with its sign is the longest. -/
theorem named_semi {l : List UInt8} {r : Row} (hr : r ∈ tab) (h : nm r ++ [59] <+: l) : named l = (isOf r, (nm r).length + 1) := by
  apply named_eq
  have h1 := h.length_le
  simp at h1
  have he : nm r = l.take (nm r).length := pre_take ((List.prefix_append _ _).trans h)
  have hb := (semi_pre (l := l) (n := (nm r).length) (r := r) (by omega) he).1 h
  exact byLen_semi (by omega) hr he hb
end Go.Proofs.YtgldgdopabmefaaGreatDoor.Ent
