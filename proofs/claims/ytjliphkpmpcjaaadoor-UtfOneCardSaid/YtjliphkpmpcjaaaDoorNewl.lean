/- Walks: utf's lineReader and Newlines. -/
import Derived.Test.YtjliphkpmpcjaaaDoorReader
namespace Go.Proofs.YtjliphkpmpcjaaaDoor
open Go.RowKit Go.Lib
set_option maxRecDepth 100000
set_option linter.unusedVariables false

/-- The two variables that the reader remembers, and nothing else. -/
theorem newReader_any (s : ByteArray) (w : World) :
    Calls Tryd.prog 28 #[.string s] w fun e w' => e = .returned (.func (.func 39) #[] #[.pointer (some ⟨w.heap.size + 1, 0, none⟩), .pointer (some ⟨w.heap.size, 0, none⟩)]) ∧
      w' = (w.alloc (.cells #[.string s] 9 (0, 0))).alloc (.cells #[.int .i64 0] 3 (0, 0)) := by
  have hmf : ∀ (fn : Fn) (first cap : Array Value) (w : World), (Instr.makeFunc fn first cap).run Tryd.prog w = .ok (.func fn first cap) w := fun _ _ _ _ => rfl
  go_enter Tryd.func28, Tryd.ntmps28
  go_wp2
  go_ret
  exact ⟨rfl, rfl⟩

/-- What was read at p. -/
def RdInv (s : ByteArray) (p q : Nat) (line : List UInt8) (D : Bool) : Prop :=
  line = Nl.lineOf (s.data.toList.drop p) ∧ D = decide (Nl.restOf (s.data.toList.drop p) ≠ []) ∧ q = p + line.length + Nl.width (Nl.restOf (s.data.toList.drop p)) ∧ p ≤ s.size

theorem reader_rd (s : ByteArray) (k ba bs : Nat) (w : World) (hs : s.size ≤ 4294967296) (hk : k ≤ s.size) (ha : w.heap[ba]? = some (.cells #[.int .i64 (k : Int)] 3 (0, 0))) (hb : w.heap[bs]? = some (.cells #[.string s] 9 (0, 0))) (hne : bs ≠ ba) :
    Calls Tryd.prog 39 #[.pointer (some ⟨ba, 0, none⟩), .pointer (some ⟨bs, 0, none⟩)] w fun e w' =>
      ∃ (line : List UInt8) (D : Bool) (q : Nat), e = .returned (.tuple #[.string ⟨line.toArray⟩, .bool D, .bool (decide (k < s.size))]) ∧ RdInv s k q line D ∧ w'.heap[ba]? = some (.cells #[.int .i64 (q : Int)] 3 (0, 0)) ∧ w.grownBy w' (some ba) :=
  (reader_any s k ba bs w hs hk ha hb hne).mono fun _ _ ⟨h1, h2, h3⟩ => ⟨_, _, _, h1, ⟨rfl, rfl, rfl, hk⟩, h2, h3⟩

theorem RdInv.le {s : ByteArray} {p q : Nat} {line : List UInt8} {D : Bool} (h : RdInv s p q line D) : q ≤ s.size ∧ p + line.length ≤ q ∧ (p < s.size → p < q) := by
  obtain ⟨h1, _, h3, h4⟩ := h
  have a1 := Nl.lineOf_le (s.data.toList.drop p)
  have a2 := Nl.width_le (Nl.restOf (s.data.toList.drop p))
  have a3 := congrArg List.length (Nl.line_rest (s.data.toList.drop p))
  rw [List.length_append, List.length_drop, size_list] at a3
  rw [← h1] at a3
  refine ⟨by omega, by omega, fun h => ?_⟩
  by_cases hr : Nl.restOf (s.data.toList.drop p) = []
  · rw [hr] at a3
    simp at a3
    omega
  · have := Nl.width_pos _ hr
    omega
theorem RdInv.next {s : ByteArray} {p q : Nat} {line : List UInt8} {D : Bool} (h : RdInv s p q line D) : Nl.next (s.data.toList.drop p) = s.data.toList.drop q := by
  obtain ⟨h1, _, h3, _⟩ := h
  rw [Nl.next_drop, List.drop_drop, ← h1, h3, Nat.add_assoc]
theorem RdInv.ended {s : ByteArray} {p q : Nat} {line acc : List UInt8} (h : RdInv s p q line true) (hN : NInv s.data.toList p acc) (hp : p < s.size) : NInv s.data.toList q (acc ++ line ++ [10]) := by
  have hn := h.next
  have hle := h.le
  obtain ⟨h1, h2, h3, _⟩ := h
  obtain ⟨g1, g2⟩ := hN
  have hr : Nl.restOf (s.data.toList.drop p) ≠ [] := by simpa using h2.symm
  have hw := Nl.width_pos _ hr
  rw [Nl.nl_cut, if_neg hr, hn, ← h1] at g1
  refine ⟨by rw [← g1]; simp, ?_⟩
  simp
  omega
theorem RdInv.last {s : ByteArray} {p q : Nat} {line acc : List UInt8} (h : RdInv s p q line false) (hN : NInv s.data.toList p acc) : NInv s.data.toList q (acc ++ line) := by
  have hn := h.next
  have hle := h.le
  obtain ⟨h1, h2, h3, _⟩ := h
  obtain ⟨g1, g2⟩ := hN
  have hr : Nl.restOf (s.data.toList.drop p) = [] := by simpa using h2.symm
  have hx : s.data.toList.drop q = [] := by rw [← hn, Nl.next, hr]; rfl
  rw [Nl.nl_cut, if_pos hr, ← h1, List.append_nil] at g1
  refine ⟨by rw [← g1, hx, Nl.nl_nil]; simp, ?_⟩
  simp
  omega

/-- A builder stays one while a block of another kind is written. -/
theorem builder_grown {T e : TypeId} {B b : Nat} {bs : List Value} {W W' : World} {ba : Nat} {t : TypeId} {cs : Array Value} {fz : Nat × Nat} (h : IsBuilderF T e B b bs W) (hg : W.grownBy W' (some ba)) (ha : W.heap[ba]? = some (.cells cs t fz)) (hb : b ≠ ba) (hte : t ≠ e) : IsBuilderF T e B b bs W' := by
  have key : ∀ p, BuilderAtF T e B b p bs W → BuilderAtF T e B b p bs W' := by
    rintro p ⟨hB, v, hv, hown, hne⟩
    have hlt : b < W.heap.size := (Array.getElem?_eq_some_iff.1 hv).1
    refine ⟨hB, v, (hg.block b hlt (by simpa using hb)).trans hv, hown.kept hg ?_, hne⟩
    right
    intro e1
    obtain ⟨c, fz', hc⟩ := ownsRowF_kind hown ba e1
    rw [ha] at hc
    simp at hc
    exact hte hc.2.1
  exact h.elim (fun x => .inl (key _ x)) (fun x => .inr (key _ x))
def okN : Value → Nat
  | .bool true => 1
  | _ => 0
end Go.Proofs.YtjliphkpmpcjaaaDoor
