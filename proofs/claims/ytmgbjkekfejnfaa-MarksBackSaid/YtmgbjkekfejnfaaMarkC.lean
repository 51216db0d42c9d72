/- What the program's package marks is known to do; the statements' example. -/
import Derived.Test.YtmgbjkekfejnfaaMarkLo
namespace Go.Proofs.Ytmgbjkekfejnfaa
open Go.RowKit Go.Lib
set_option maxRecDepth 100000
set_option linter.unusedVariables false
/-- No name is too long. -/
def ShortM (xs : List Mk.M) : Prop := ∀ x ∈ xs, x.name.length ≤ 281474976710656
theorem keep_in {α : Type} {l : List α} {s : Int} {y : α} : ∀ k, y ∈ Mk.keepK l s k → y ∈ l
  | 0, h => by cases h
  | k + 1, h => by
    cases hx : l[k]? with
    | none =>
      unfold Mk.keepK at h
      rw [hx] at h
      exact keep_in k h
    | some x =>
      rw [Mk.keepK_step hx] at h
      split at h
      · exact keep_in k h
      · rcases List.mem_append.1 h with h | h
        · exact keep_in k h
        · rw [List.mem_singleton.1 h]; exact List.mem_of_getElem? hx
theorem ShortM.push {xs : List Mk.M} {x : Mk.M} (h : ShortM xs) (hx : x.name.length ≤ 281474976710656) : ShortM (Mk.pushL xs x) := fun y hy => by
  rcases List.mem_append.1 hy with hy | hy
  · exact h y (keep_in _ hy)
  · rw [List.mem_singleton.1 hy]; exact hx
structure MarksC : Prop where
  push : ∀ (a : Option Addr) (n c : Nat) (rs : List MR) (xs : List Mk.M) (r : MR) (x : Mk.M) (w : World), MarksIn a n c rs xs w → FitM w r x → n ≤ 4000000 → ShortM xs → x.name.length ≤ 281474976710656 →
    Calls Try.prog 9 #[.slice a n c, .agg #[.int .i64 r.id, .string (bs r.name), .slice r.aa r.an r.ac]] w fun e w' => NewM w w' e (Mk.pushL xs x) ∧ Below w.heap.size w w'
  clear : ∀ (a : Option Addr) (n c : Nat) (rs : List MR) (xs : List Mk.M) (w : World), MarksIn a n c rs xs w → n ≤ 4000000 → ShortM xs →
    Calls Try.prog 13 #[.slice a n c] w fun e w' => NewM w w' e (Mk.clearL xs) ∧ Below w.heap.size w w'
  last : ∀ (a : Option Addr) (n c : Nat) (rs : List MR) (xs : List Mk.M) (nm : List UInt8) (w : World), MarksIn a n c rs xs w → n ≤ 4000000 →
    Calls Try.prog 15 #[.slice a n c, .string (bs nm)] w fun e w' => e = .returned (.int .i64 (Mk.lastI xs nm (Mk.behind xs n) n)) ∧ Below w.heap.size w w'
  find : ∀ (a : Option Addr) (n c : Nat) (rs : List MR) (xs : List Mk.M) (id : Int) (w : World), MarksIn a n c rs xs w → n ≤ 4000000 → -9223372036854775808 ≤ id → id ≤ 9223372036854775807 →
    Calls Try.prog 17 #[.slice a n c, .int .i64 id] w fun e w' => e = .returned (.int .i64 (findR xs id)) ∧ Below w.heap.size w w'
  lost : ∀ (a : Option Addr) (n c : Nat) (rs : List MR) (xs : List Mk.M) (oa : Option Addr) (on oc : Nat) (l : List Opn.E) (w : World), MarksIn a n c rs xs w → IsE w oa on l → n ≤ 4000000 → on ≤ 4000000 → on ≤ oc → oc ≤ 9223372036854775807 →
    Calls Try.prog 19 #[.slice a n c, .slice oa on oc] w fun e w' => e = .returned (.int .i64 (Mk.lostN xs (l.map (·.id)) n)) ∧ Below w.heap.size w w'
/-! ### Marks without attributes -/
def bareR (i : Int) (nm : List UInt8) : MR := ⟨i, nm, none, 0, 0⟩
def bareX (i : Int) (nm : List UInt8) : Mk.M := ⟨i, nm, []⟩
theorem bare_fit (W : World) (i : Int) (nm : List UInt8) : FitM W (bareR i nm) (bareX i nm) := ⟨rfl, rfl, ⟨rfl, .inl rfl⟩, Nat.le_refl _, by show (0 : Nat) ≤ _; omega, fun _ => rfl⟩
theorem rowM_of_block {W : World} {g : Nat} {rs : List MR} {C : Array Value} {t : TypeId} {n : Nat} (hn : rs.length = n) (h : BlkW W g C t) (hC : C.toList = mL rs) : RowM W (some ⟨g, 0, none⟩) n rs := by
  refine ⟨hn, .inr ⟨g, 0, rfl, fun i r hi => ?_⟩⟩
  obtain ⟨h0, h1, h2⟩ := mL_get rs i r hi
  rw [← hC, Array.getElem?_toList] at h0 h1 h2
  rw [Nat.zero_add]
  exact ⟨(h.cell _).trans h0, (h.cell _).trans h1, (h.cell _).trans h2⟩
theorem atts_bare (W : World) : ∀ (l : List (Int × List UInt8)), AttsM W (l.map fun p => bareR p.1 p.2) (l.map fun p => bareX p.1 p.2) := by
  intro l
  refine ⟨by simp, fun i r x hr hx => ?_⟩
  rw [List.getElem?_map, Option.map_eq_some_iff] at hr hx
  obtain ⟨p, hp, rfl⟩ := hr
  obtain ⟨q, hq, rfl⟩ := hx
  rw [hp] at hq
  cases hq
  exact bare_fit W _ _
/-- A literal of marks without attributes. -/
theorem marks_lit (W : World) (l : List (Int × List UInt8)) {C : Array Value} {n : Nat} (hn : l.length = n) (hC : C.toList = mL (l.map fun p => bareR p.1 p.2)) (hs : n ≤ 1000) :
    MarksIn (some ⟨W.heap.size, 0, none⟩) n n (l.map fun p => bareR p.1 p.2) (l.map fun p => bareX p.1 p.2) (W.alloc (.cells C 25)) :=
  ⟨rowM_of_block (by rw [List.length_map, hn]) (BlkW.new W C _) hC, atts_bare _ l, by omega, Nat.le_refl _, by omega⟩
theorem b_any (i : Int) (w : World) : Calls Try.prog 27 #[.int .i64 i] w fun e w' => e = .returned (.agg #[.int .i64 i, .string ⟨#[98]⟩, .slice none 0 0]) ∧ Below w.heap.size w w' := by
  have al := hid ((Below.refl w.heap.size w).alloc (Nat.le_refl _) (.cells #[.int .i64 i, .string ⟨#[98]⟩, .slice none 0 0] 25))
  go_enter Try.func27, Try.ntmps27
  go_wp2
  refine ⟨rfl, .agg #[.int .i64 i, .string ⟨#[98]⟩, .slice none 0 0], by simp [results, Try.results27, go_sem], ?_⟩
  exact ⟨rfl, al.out⟩
end Go.Proofs.Ytmgbjkekfejnfaa
