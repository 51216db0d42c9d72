/- Plain Lean: all that stands in a node of a tree by numbers: how deep, and how much it weighs. Plain Lean: a node and its copy that are put at the end of a tree's root, and cut off again: what is told on the way. Nothing of a program stands here. Plain Lean: what calls add to a tree: the same nodes, wherever they stand; at most so many, none heavier than that. -/
import Derived.Test.YtlgmjnnfndedbaaTreeMove
namespace Go.Proofs.Ytlgmjnnfndedbaa.Dom
open Go.Lib
set_option maxRecDepth 100000
set_option linter.unusedVariables false

theorem wholeF_none {t : T} {i : Nat} (h : kidsAt t i = []) : ∀ f, wholeF f t i = []
  | 0 => rfl
  | f + 1 => by rw [wholeF, h]; rfl
theorem ranks_le (r : Nat → Nat) : ∀ n : Nat, ∃ M, ∀ i, i < n → r i ≤ M
  | 0 => ⟨0, fun i h => by omega⟩
  | n + 1 => by
    obtain ⟨M, hM⟩ := ranks_le r n
    refine ⟨max M (r n), fun i hi => ?_⟩
    by_cases e : i = n
    · subst e; exact Nat.le_max_right _ _
    · exact Nat.le_trans (hM i (by omega)) (Nat.le_max_left _ _)
/-! ### Weights -/
def cost (x : N) : Nat := (1 + x.text.length / 8 + x.name.length / 8) + sumA x.atts
open Classical in
noncomputable def sumP (t : T) (P : Nat → Prop) : Nat := ((List.range t.length).map fun j => if P j then cost (bareP (nodeAt t j).nd) else 0).sum
theorem sum_le {l : List Nat} {f g : Nat → Nat} (h : ∀ x ∈ l, f x ≤ g x) : (l.map f).sum ≤ (l.map g).sum := by
  induction l with
  | nil => exact Nat.le_refl _
  | cons x r ih =>
    rw [List.map_cons, List.map_cons, List.sum_cons, List.sum_cons]
    have := h x (List.mem_cons_self ..)
    have := ih fun y hy => h y (List.mem_cons_of_mem _ hy)
    omega
theorem sum_add (l : List Nat) (f g : Nat → Nat) : (l.map f).sum + (l.map g).sum = (l.map fun x => f x + g x).sum := by
  induction l with
  | nil => rfl
  | cons x r ih =>
    simp only [List.map_cons, List.sum_cons]
    omega
open Classical in
/-- What stands in several that share nothing. -/
theorem sumP_parts (t : T) : ∀ (l : List Nat) (P : Nat → Prop) (A : Nat → Nat → Prop), l.Nodup → (∀ k ∈ l, ∀ j, A k j → P j) → (∀ k ∈ l, ∀ k' ∈ l, ∀ j, A k j → A k' j → k = k') → (l.map fun k => sumP t (A k)).sum ≤ sumP t P
  | [], P, A, _, _, _ => Nat.zero_le _
  | k :: r, P, A, hn, hP, hA => by
    obtain ⟨hk, hr⟩ := List.nodup_cons.1 hn
    have ih := sumP_parts t r (fun j => P j ∧ ¬ A k j) A hr (fun k' h' j hj => ⟨hP k' (List.mem_cons_of_mem _ h') j hj, fun h2 => hk (by rw [hA k (List.mem_cons_self ..) k' (List.mem_cons_of_mem _ h') j h2 hj]; exact h')⟩)
      (fun a ha b hb j => hA a (List.mem_cons_of_mem _ ha) b (List.mem_cons_of_mem _ hb) j)
    rw [List.map_cons, List.sum_cons]
    refine Nat.le_trans (Nat.add_le_add_left ih _) ?_
    unfold sumP
    rw [sum_add]
    refine sum_le fun j _ => ?_
    by_cases h1 : A k j
    · rw [if_pos h1, if_neg (fun g => g.2 h1), if_pos (hP k (List.mem_cons_self ..) j h1)]
      omega
    · rw [if_neg h1]
      by_cases h2 : P j
      · rw [if_pos ⟨h2, h1⟩, if_pos h2]
        omega
      · rw [if_neg (fun g => h2 g.1), if_neg h2]
        omega
theorem Up.line {t : T} {x a b : Nat} (h : Up t x a) (g : Up t x b) : Up t a b ∨ Up t b a := by
  induction h with
  | refl x => exact .inl g
  | step e h2 ih =>
    rcases Up.tail e g with rfl | g
    · exact .inr (.step e h2)
    · exact ih g
theorem sumL_map (c : N → Nat) (f : Nat → N) : ∀ l : List Nat, sumL c (l.map f) = (l.map fun k => c (f k)).sum
  | [] => rfl
  | x :: r => by
    rw [List.map_cons, List.map_cons, List.sum_cons, ← sumL_map c f r]
    rfl
open Classical in
theorem sumP_one (t : T) (k : Nat) (hk : k < t.length) (P : Nat → Prop) (h : ¬ P k) : cost (bareP (nodeAt t k).nd) + sumP t P ≤ sumP t fun j => j = k ∨ P j := by
  have h1 : cost (bareP (nodeAt t k).nd) ≤ ((List.range t.length).map fun j => if j = k then cost (bareP (nodeAt t j).nd) else 0).sum := by
    have : ∀ n, k < n → cost (bareP (nodeAt t k).nd) ≤ ((List.range n).map fun j => if j = k then cost (bareP (nodeAt t j).nd) else 0).sum := by
      intro n
      induction n with
      | zero => intro h; omega
      | succ n ih =>
        intro hn
        rw [List.range_succ, List.map_append, List.sum_append]
        by_cases e : k = n
        · subst e
          simp
        · have := ih (by omega)
          omega
    exact this _ hk
  refine Nat.le_trans (Nat.add_le_add_right h1 _) ?_
  unfold sumP
  rw [sum_add]
  refine sum_le fun j _ => ?_
  by_cases e : j = k
  · subst e
    rw [if_pos rfl, if_neg h, if_pos (.inl rfl)]
    omega
  · rw [if_neg e]
    by_cases h2 : P j
    · rw [if_pos h2, if_pos (.inr h2)]
      omega
    · rw [if_neg h2]
      omega
/-- All that stands in a node weighs no more than what there is within it. -/
theorem whole_wt {t : T} (h : Good t) : ∀ (f d i : Nat), sumW d (wholeF f t i) ≤ sumP t fun j => j ≠ i ∧ Up t j i
  | 0, d, i => by
    have : sumW d (wholeF 0 t i) = 0 := by cases d <;> rfl
    omega
  | f + 1, 0, i => Nat.zero_le _
  | f + 1, d + 1, i => by
    obtain ⟨r, hr⟩ := h.ends
    rw [wholeF]
    show sumL _ _ ≤ _
    rw [sumL_map]
    refine Nat.le_trans (sum_le (g := fun k => sumP t fun j => Up t j k) fun k hk => ?_) (sumP_parts t (kidsAt t i) _ (fun k j => Up t j k) (h.nodup i) (fun k hk j hj => ?_) (fun k hk k' hk' j hj hj' => ?_))
    · obtain ⟨k1, k2⟩ := h.kid i k hk
      have ih := whole_wt h f d k
      have one := sumP_one t k k1 (fun j => j ≠ k ∧ Up t j k) (fun g => g.1 rfl)
      have e : (fun j => j = k ∨ (j ≠ k ∧ Up t j k)) = fun j => Up t j k := by
        funext j
        refine propext ⟨fun g => g.elim (fun e => e ▸ .refl j) (fun g => g.2), fun g => ?_⟩
        by_cases e : j = k
        · exact .inl e
        · exact .inr ⟨e, g⟩
      rw [e] at one
      refine Nat.le_trans ?_ one
      show cost (bareP (nodeAt t k).nd) + sumW d (wholeF f t k) ≤ _
      omega
    · obtain ⟨k1, k2⟩ := h.kid i k hk
      refine ⟨fun e => ?_, hj.trans (.step k2 (.refl i))⟩
      subst e
      have := hj.rank hr
      have := hr _ _ k2
      omega
    · obtain ⟨k1, k2⟩ := h.kid i k hk
      obtain ⟨k3, k4⟩ := h.kid i k' hk'
      have a1 := hr _ _ k2
      have a2 := hr _ _ k4
      rcases hj.line hj' with g | g
      · rcases g.tail k2 with e | g
        · exact e
        · have := g.rank hr
          omega
      · rcases g.tail k4 with e | g
        · exact e.symm
        · have := g.rank hr
          omega
end Go.Proofs.Ytlgmjnnfndedbaa.Dom
namespace Go.Proofs.Ytlgmjnnfndedbaa.Dom
open Go.Lib
set_option maxRecDepth 100000
set_option linter.unusedVariables false

theorem bareP_bare (x : N) : withKids (bareP x) [] = bareP x := by
  unfold bareP
  split <;> rfl
theorem Up.root {t : T} (h : parAt t 0 = -1) {o : Nat} (g : Up t 0 o) : o = 0 := by
  cases g with
  | refl => rfl
  | step e _ => rw [h] at e; omega
end Go.Proofs.Ytlgmjnnfndedbaa.Dom
namespace Go.Proofs.Ytlgmjnnfndedbaa
open Go.Lib
set_option maxRecDepth 100000
set_option linter.unusedVariables false
theorem cost_bare (x : Dom.N) : Dom.cost (Dom.bareP x) ≤ Dom.cost x := by
  unfold Dom.bareP
  split
  · show (1 + 0 / 8 + x.name.length / 8) + Dom.sumA x.atts ≤ (1 + x.text.length / 8 + x.name.length / 8) + Dom.sumA x.atts
    omega
  · show (1 + x.text.length / 8 + 0 / 8) + 0 ≤ (1 + x.text.length / 8 + x.name.length / 8) + Dom.sumA x.atts
    omega
/-- The same nodes, wherever they stand. -/
def SameNd (t u : Dom.T) : Prop := u.length = t.length ∧ ∀ j, (Dom.nodeAt u j).nd = (Dom.nodeAt t j).nd
theorem SameNd.refl (t : Dom.T) : SameNd t t := ⟨rfl, fun _ => rfl⟩
theorem SameNd.trans {t u v : Dom.T} (h : SameNd t u) (g : SameNd u v) : SameNd t v := ⟨g.1.trans h.1, fun j => (g.2 j).trans (h.2 j)⟩
theorem upd_out {t : Dom.T} {i : Nat} (h : t.length ≤ i) (f : Dom.TN → Dom.TN) : Dom.upd t i f = t := by
  unfold Dom.upd
  apply List.ext_getElem?
  intro k
  rw [List.getElem?_modify]
  by_cases e : i = k
  · subst e
    rw [List.getElem?_eq_none h]
    rfl
  · simp [e]
theorem SameNd.upd {t u : Dom.T} (h : SameNd t u) (i : Nat) (f : Dom.TN → Dom.TN) (hf : ∀ x, (f x).nd = x.nd) : SameNd t (Dom.upd u i f) := by
  refine h.trans ⟨Dom.upd_len _ _ _, fun j => ?_⟩
  by_cases hi : i < u.length
  · rw [Dom.upd_at _ _ _ hi]
    split
    · rename_i e; rw [hf, e]
    · rfl
  · rw [upd_out (by omega)]
theorem sameNd_cut (t : Dom.T) (i : Int) : SameNd t (Dom.cutT t i).1 := by
  unfold Dom.cutT
  split
  · exact .refl t
  · refine SameNd.upd (SameNd.upd (SameNd.refl t) _ _ ?_) _ _ ?_ <;> exact fun _ => rfl
theorem sameNd_put (t : Dom.T) (p b i : Int) : SameNd t (Dom.putT t p b i).1 := by
  unfold Dom.putT
  split
  · exact .refl t
  · refine SameNd.upd (SameNd.upd (sameNd_cut t i) _ _ ?_) _ _ ?_ <;> exact fun _ => rfl
/-- At most so many, none heavier than that. -/
def Bnd (t : Dom.T) (L C : Nat) : Prop := t.length ≤ L ∧ ∀ i, Dom.cost (Dom.nodeAt t i).nd ≤ C
theorem Bnd.same {t u : Dom.T} {L C : Nat} (h : Bnd t L C) (g : SameNd t u) : Bnd u L C := ⟨by rw [g.1]; exact h.1, fun i => by rw [g.2]; exact h.2 i⟩
theorem Bnd.wide {t : Dom.T} {L C L' C' : Nat} (h : Bnd t L C) (hL : L ≤ L') (hC : C ≤ C') : Bnd t L' C' := ⟨Nat.le_trans h.1 hL, fun i => Nat.le_trans (h.2 i) hC⟩
theorem Bnd.snoc {t : Dom.T} {L C : Nat} (h : Bnd t L C) (x : Dom.TN) (hx : Dom.cost x.nd ≤ C) : Bnd (t ++ [x]) (L + 1) C := by
  refine ⟨by rw [List.length_append]; exact Nat.add_le_add_right h.1 1, fun i => ?_⟩
  rw [Dom.nodeAt_snoc]
  split
  · exact hx
  · exact h.2 i
theorem bnd_make {t : Dom.T} {L C : Nat} (h : Bnd t L C) (x : Dom.N) (hx : Dom.cost x ≤ C) : Bnd (Dom.makeT t x).1 (L + 1) C := by
  unfold Dom.makeT
  split
  · exact h.wide (Nat.le_succ _) (Nat.le_refl _)
  · exact h.snoc _ (Nat.le_trans (cost_bare x) hx)
theorem cost_text (x : Dom.TN) (s : List UInt8) : Dom.cost (Dom.addText x s).nd ≤ Dom.cost x.nd + (1 + s.length / 8) := by
  show (1 + (x.nd.text ++ s).length / 8 + x.nd.name.length / 8) + Dom.sumA x.nd.atts ≤ ((1 + x.nd.text.length / 8 + x.nd.name.length / 8) + Dom.sumA x.nd.atts) + (1 + s.length / 8)
  rw [List.length_append]
  omega
theorem bnd_write {t : Dom.T} {L C : Nat} (h : Bnd t L C) (hC : 1 ≤ C) (p b : Int) (s : List UInt8) (M : Nat) (hs : s.length / 8 ≤ M) : Bnd (Dom.writeT t p b s).1 (L + 1) (C + (1 + M)) := by
  unfold Dom.writeT
  split
  · exact h.wide (Nat.le_succ _) (Nat.le_add_right _ _)
  · split
    · exact h.wide (Nat.le_succ _) (Nat.le_add_right _ _)
    · simp only
      split
      · refine ⟨by rw [Dom.upd_len]; exact Nat.le_trans h.1 (Nat.le_succ _), fun i => ?_⟩
        have h0 := h.2 i
        generalize (Dom.kidsAt t p.toNat).getD ((Dom.placeL (Dom.kidsAt t p.toNat) b).toNat - 1) 0 = q
        by_cases hq : q < t.length
        · rw [Dom.upd_at _ _ _ hq]
          split
          · show Dom.cost (Dom.addText (Dom.nodeAt t q) s).nd ≤ _
            have h5 := cost_text (Dom.nodeAt t q) s
            have h6 := h.2 q
            omega
          · omega
        · rw [upd_out (by omega)]
          show Dom.cost (Dom.nodeAt t i).nd ≤ _
          omega
      · have hx : Dom.cost (Dom.bareP (.mk 2 0 [] [] s [])) ≤ C + (1 + M) := by
          refine Nat.le_trans (cost_bare _) ?_
          show (1 + s.length / 8 + 0 / 8) + 0 ≤ _
          omega
        exact (Bnd.snoc (h.wide (Nat.le_refl _) (Nat.le_add_right _ _)) ⟨Dom.bareP (.mk 2 0 [] [] s []), -1, []⟩ hx).same (sameNd_put _ p b t.length)
theorem bnd_new : Bnd Dom.tNew 1 1 := by
  refine ⟨Nat.le_refl _, fun i => ?_⟩
  cases i with
  | zero => exact Nat.le_refl _
  | succ i =>
    rw [Dom.nodeAt_none (by show 1 ≤ i + 1; omega)]
    exact Nat.le_refl _
end Go.Proofs.Ytlgmjnnfndedbaa
