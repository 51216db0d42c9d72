/- What a call that writes a tree leaves: the tree, in its own blocks and new ones; nothing else turned. What the program's tree of layer 10 is known to do, as premises for what stands on it. P w base R S t: at R lies the tree t, in blocks of S, none below base. -/
import Derived.Test.YtlgmjnnfndedbaaTreeO
import Derived.Test.YtlgmjnnfndedbaaTreeNd
import Derived.Test.YtlgmjnnfndedbaaMarkM
namespace Go.Proofs.Ytlgmjnnfndedbaa
open Go.RowKit Go.Lib
set_option maxRecDepth 100000
set_option linter.unusedVariables false

/-- Only blocks of S have turned, and new ones came; S' are of S, or new. -/
structure Turn (S S' : Nat → Prop) (w w' : World) : Prop where
  os : w'.os = w.os
  tape : w'.tape = w.tape
  output : w'.output = w.output
  size : w.heap.size ≤ w'.heap.size
  block : ∀ k, k < w.heap.size → ¬ S k → w'.heap[k]? = w.heap[k]?
  sub : ∀ k, S' k → S k ∨ w.heap.size ≤ k
theorem Turn.refl (S : Nat → Prop) (w : World) : Turn S S w w := ⟨rfl, rfl, rfl, Nat.le_refl _, fun _ _ _ => rfl, fun _ h => .inl h⟩
theorem Turn.trans {S S1 S2 : Nat → Prop} {w w1 w2 : World} (h : Turn S S1 w w1) (k : Turn S1 S2 w1 w2) : Turn S S2 w w2 :=
  ⟨k.os.trans h.os, k.tape.trans h.tape, k.output.trans h.output, Nat.le_trans h.size k.size, fun i hi hn => (k.block i (by have := h.size; omega) fun e => (h.sub i e).elim hn (by omega)).trans (h.block i hi hn), fun i hi => (k.sub i hi).elim (h.sub i) fun e => .inr (Nat.le_trans h.size e)⟩
theorem Turn.of_below {S : Nat → Prop} {w w' : World} (h : Below w.heap.size w w') : Turn S S w w' := ⟨h.os, h.tape, h.output, h.size, fun k hk _ => h.block k hk, fun _ e => .inl e⟩
theorem Turn.below {S S' : Nat → Prop} {B : Nat} {w0 w w' : World} (h : Turn S S' w w') (hb : Below B w0 w) (hB : B ≤ w.heap.size) (hS : ∀ k, S k → B ≤ k) : Below B w0 w' :=
  ⟨h.os.trans hb.os, h.tape.trans hb.tape, h.output.trans hb.output, Nat.le_trans hb.size h.size, fun k hk => (h.block k (by omega) fun e => by have := hS k e; omega).trans (hb.block k hk)⟩
theorem Turn.set {S S' : Nat → Prop} {w w' : World} (h : Turn S S' w w') (p : Addr) (u : Value) (hp : S p.block ∨ w.heap.size ≤ p.block) : Turn S S' w (w'.setCell p u) :=
  ⟨h.os, h.tape, h.output, by simpa [World.setCell] using h.size, fun k hk hn => (Below.heap_setCell _ _ _ _ (fun e => by
    subst e
    rcases hp with hp | hp
    · exact hn hp
    · omega)).trans (h.block k hk hn), h.sub⟩
theorem Turn.wide {S S' S2 : Nat → Prop} {w w' : World} (h : Turn S S' w w') (hs : ∀ k, S2 k → S' k ∨ w.heap.size ≤ k) : Turn S S2 w w' :=
  ⟨h.os, h.tape, h.output, h.size, h.block, fun k hk => (hs k hk).elim (h.sub k) .inr⟩
theorem Turn.grown {S : Nat → Prop} {w w' : World} {row : Option Nat} (h : w.grownBy w' row) (hr : ∀ k, row = some k → S k) : Turn S S w w' :=
  ⟨h.os, h.tape, h.output, h.size, fun k hk hn => h.block k hk fun e => hn (hr k e.symm), fun _ e => .inl e⟩
/-- Still apart. -/
theorem Turn.apart {S Q Q' : Nat → Prop} {w w' : World} (hT : Turn Q Q' w w') (hd : ∀ k, S k → ¬ Q k) (hS : ∀ k, S k → k < w.heap.size) : ∀ k, S k → ¬ Q' k := fun k h e => (hT.sub k e).elim (hd k h) fun g => by have := hS k h; omega
/-- Fewer than there are numbers. -/
theorem nodup_len : ∀ (n : Nat) (l : List Nat), l.Nodup → (∀ x ∈ l, x < n) → l.length ≤ n
  | 0, l, _, h => by
    cases l with
    | nil => exact Nat.le_refl _
    | cons x r => exact absurd (h x (List.mem_cons_self ..)) (Nat.not_lt_zero _)
  | n + 1, l, hn, h => by
    have := nodup_len n (l.erase n) (hn.erase n) fun x hx => by
      have h1 := h x (List.mem_of_mem_erase hx)
      have h2 : x ≠ n := fun e => by
        subst e
        exact hn.not_mem_erase hx
      omega
    have := List.length_erase_le (a := n) (l := l)
    have h3 : l.length ≤ (l.erase n).length + 1 := by
      by_cases e : n ∈ l
      · rw [List.length_erase_of_mem e]
        omega
      · rw [List.erase_of_not_mem e]
        omega
    omega
theorem good_few {t : Dom.T} (h : Dom.Good t) (i : Nat) : (Dom.kidsAt t i).length ≤ t.length := nodup_len _ _ (h.nodup i) fun x hx => (h.kid i x hx).1
/-- The place of a kid. -/
theorem placeF_mem : ∀ (l : List Nat) (i x : Nat), x ∈ l → ∃ k, k < l.length ∧ Dom.placeF (x : Int) i l = ((i + k : Nat) : Int) ∧ l.take k ++ l.drop (k + 1) = l.erase x
  | [], i, x, h => by cases h
  | y :: r, i, x, h => by
    unfold Dom.placeF
    by_cases e : y = x
    · subst e
      exact ⟨0, by simp, by rw [if_pos rfl]; rfl, by simp⟩
    · have hx : x ∈ r := by
        rcases List.mem_cons.1 h with h | h
        · exact absurd h.symm e
        · exact h
      obtain ⟨k, k1, k2, k3⟩ := placeF_mem r (i + 1) x hx
      refine ⟨k + 1, by simp; omega, by rw [if_neg (by omega), k2]; omega, ?_⟩
      rw [List.take_succ_cons, List.drop_succ_cons, List.cons_append, k3, List.erase_cons_tail (by simpa using e)]
theorem placeL_mem {l : List Nat} {x : Nat} (h : x ∈ l) : ∃ k, k < l.length ∧ Dom.placeL l (x : Int) = (k : Int) ∧ l.take k ++ l.drop (k + 1) = l.erase x := by
  obtain ⟨k, k1, k2, k3⟩ := placeF_mem l 0 x h
  refine ⟨k, k1, ?_, k3⟩
  unfold Dom.placeL
  rw [if_neg (by omega), k2]
  omega
theorem IsZ.below {w w' : World} {a : Option Addr} {n : Nat} {l : List Nat} (h : IsZ w a n l) (hb : Below w.heap.size w w') : IsZ w' a n l :=
  ⟨h.1, h.2.elim .inl fun ⟨b, off, e, hat⟩ => .inr ⟨b, off, e, fun i x hx => cell_up (hat i x hx) hb⟩⟩
theorem placeF_erase {K : Int} {x : Nat} (hK : K ≠ (x : Int)) : ∀ (l : List Nat) (i : Nat), 0 ≤ Dom.placeF K i l → ∀ j, 0 ≤ Dom.placeF K j (l.erase x)
  | [], i, h, j => by
    exfalso
    have : Dom.placeF K i [] = -1 := rfl
    omega
  | y :: r, i, h, j => by
    by_cases e : y = x
    · subst e
      rw [List.erase_cons_head]
      unfold Dom.placeF at h
      rw [if_neg (fun e => hK e.symm)] at h
      exact placeF_shift r _ h j
    · rw [List.erase_cons_tail (by simpa using e)]
      unfold Dom.placeF at h ⊢
      by_cases e2 : (y : Int) = K
      · rw [if_pos e2]; omega
      · rw [if_neg e2] at h ⊢
        exact placeF_erase hK r _ h _
where
  placeF_shift : ∀ (l : List Nat) (i : Nat), 0 ≤ Dom.placeF K i l → ∀ j, 0 ≤ Dom.placeF K j l
  | [], i, h, j => h
  | y :: r, i, h, j => by
    unfold Dom.placeF at h ⊢
    by_cases e2 : (y : Int) = K
    · rw [if_pos e2]; omega
    · rw [if_neg e2] at h ⊢
      exact placeF_shift r _ h _
theorem placeL_erase {l : List Nat} {K : Int} {x : Nat} (hK : K ≠ (x : Int)) (h : 0 ≤ Dom.placeL l K) : 0 ≤ Dom.placeL (l.erase x) K := by
  unfold Dom.placeL at h ⊢
  by_cases e : K = -1
  · rw [if_pos e]; omega
  · rw [if_neg e] at h ⊢
    exact placeF_erase hK l 0 h 0
end Go.Proofs.Ytlgmjnnfndedbaa
namespace Go.Proofs.Ytlgmjnnfndedbaa
open Go.RowKit Go.Lib
set_option maxRecDepth 100000
set_option linter.unusedVariables false

/-- A tree that is not too great. -/
structure Fit (t : Dom.T) : Prop where
  few : t.length ≤ 12000
  light : ∀ i, Dom.cost (Dom.nodeAt t i).nd ≤ 500000
  mass : ∃ L C, t.length ≤ L ∧ (∀ i, Dom.cost (Dom.nodeAt t i).nd ≤ C) ∧ L * C ≤ 500000000
theorem Fit.atts {t : Dom.T} (h : Fit t) (i : Nat) : (Dom.nodeAt t i).nd.atts.length ≤ 500000 := by
  have h1 := h.light i
  have h2 := Dom.sumA_len (Dom.nodeAt t i).nd.atts
  unfold Dom.cost at h1
  omega
theorem Fit.text {t : Dom.T} (h : Fit t) (i : Nat) : (Dom.nodeAt t i).nd.text.length ≤ 4000000 := by
  have h1 := h.light i
  unfold Dom.cost at h1
  omega
theorem sum_max (f : Nat → Nat) (M : Nat) (h : ∀ j, f j ≤ M) : ∀ l : List Nat, (l.map f).sum ≤ l.length * M
  | [] => Nat.zero_le _
  | x :: r => by
    rw [List.map_cons, List.sum_cons, List.length_cons, Nat.add_mul, Nat.one_mul]
    have := sum_max f M h r
    have := h x
    omega
open Classical in
theorem Fit.whole {t : Dom.T} (h : Fit t) (hG : Dom.Good t) (f d i : Nat) : Dom.sumW d (Dom.wholeF f t i) ≤ 500000000 := by
  refine Nat.le_trans (Dom.whole_wt hG f d i) ?_
  unfold Dom.sumP
  obtain ⟨L, C, h1, h2, h3⟩ := h.mass
  refine Nat.le_trans (sum_max _ C (fun j => ?_) _) ?_
  · split
    · exact Nat.le_trans (cost_bare _) (h2 j)
    · exact Nat.zero_le _
  · rw [List.length_range]
    exact Nat.le_trans (Nat.mul_le_mul_right _ h1) h3
/-- What a call leaves that writes the tree. -/
def TurnedP (P : World → Nat → Nat → (Nat → Prop) → Dom.T → Prop) (w w' : World) (base R : Nat) (S : Nat → Prop) (t : Dom.T) : Prop := ∃ S', P w' base R S' t ∧ Turn S S' w w'
/-- A list of nodes, all apart, in new memory. -/
def NewD (d : Nat) (w w' : World) (e : Ending) (ns : List Dom.N) : Prop := ∃ a' n c', e = .returned (.slice a' n c') ∧ IsD d w' w.heap.size w'.heap.size a' n ns ∧ (a' = none → c' = 0) ∧ n ≤ c'
/-- A list of numbers in new memory, that may be written. -/
def NewZO (w w' : World) (e : Ending) (l : List Nat) : Prop := ∃ a c, e = .returned (.slice a l.length c) ∧ IsZ w' a l.length l ∧ (∀ x, a = some x → w.heap.size ≤ x.block) ∧ (a = none → c = 0) ∧ OwnB w' 3 a l.length
end Go.Proofs.Ytlgmjnnfndedbaa
