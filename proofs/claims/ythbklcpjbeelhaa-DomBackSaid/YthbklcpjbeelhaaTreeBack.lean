/- Plain Lean: all that stands in a node of a tree by numbers: how deep, and how much it weighs. Plain Lean: a node and its copy that are put at the end of a tree's root, and cut off again: what is told on the way. Nothing of a program stands here. -/
import Derived.Test.YthbklcpjbeelhaaTreeMove
namespace Go.Proofs.Ythbklcpjbeelhaa.Dom
open Go.Lib
set_option maxRecDepth 100000
set_option linter.unusedVariables false

theorem kids_none {t : T} {i : Nat} (h : t.length ≤ i) : kidsAt t i = [] := by
  rw [kidsAt, nodeAt_none h]
  rfl
theorem wholeF_none {t : T} {i : Nat} (h : kidsAt t i = []) : ∀ f, wholeF f t i = []
  | 0 => rfl
  | f + 1 => by rw [wholeF, h]; rfl
/-- It is the same at any greater depth. -/
theorem wholeF_same {t : T} (h : Good t) {r : Nat → Nat} (hr : ∀ k (p : Nat), parAt t k = (p : Nat) → r p < r k) {M : Nat} (hM : ∀ i, i < t.length → r i ≤ M) : ∀ (f g i : Nat), M - r i < f → M - r i < g → wholeF f t i = wholeF g t i
  | 0, g, i, hf, _ => by omega
  | f + 1, 0, i, _, hg => by omega
  | f + 1, g + 1, i, hf, hg => by
    rw [wholeF, wholeF]
    refine List.map_congr_left fun k hk => ?_
    obtain ⟨k1, k2⟩ := h.kid i k hk
    have := hr k i k2
    have := hM k k1
    rw [wholeF_same h hr hM f g k (by omega) (by omega)]
theorem ranks_le (r : Nat → Nat) : ∀ n : Nat, ∃ M, ∀ i, i < n → r i ≤ M
  | 0 => ⟨0, fun i h => by omega⟩
  | n + 1 => by
    obtain ⟨M, hM⟩ := ranks_le r n
    refine ⟨max M (r n), fun i hi => ?_⟩
    by_cases e : i = n
    · subst e; exact Nat.le_max_right _ _
    · exact Nat.le_trans (hM i (by omega)) (Nat.le_max_left _ _)
/-- There is a depth behind which all is told. -/
theorem whole_deep {t : T} (h : Good t) : ∃ R, ∀ f g i, R < f → R < g → wholeF f t i = wholeF g t i := by
  obtain ⟨r, hr⟩ := h.ends
  obtain ⟨M, hM⟩ := ranks_le r t.length
  exact ⟨M, fun f g i hf hg => wholeF_same h hr hM f g i (by omega) (by omega)⟩

/-! ### Weights -/
def cost (x : N) : Nat := (1 + x.text.length / 8 + x.name.length / 8) + sumA x.atts
open Classical in
noncomputable def sumP (t : T) (P : Nat → Prop) : Nat := ((List.range t.length).map fun j => if P j then cost (bareP (nodeAt t j).nd) else 0).sum
theorem sum_le {l : List Nat} {f g : Nat → Nat} (h : ∀ x ∈ l, f x ≤ g x) : (l.map f).sum ≤ (l.map g).sum := by
  induction l with
  | nil => exact Nat.le_refl _
  | cons x r ih =>
    rw [List.map_cons, List.map_cons, List.sum_cons, List.sum_cons]
    have := h x (List.mem_cons_self ..)
    have := ih fun y hy => h y (List.mem_cons_of_mem _ hy)
    omega
theorem sum_add (l : List Nat) (f g : Nat → Nat) : (l.map f).sum + (l.map g).sum = (l.map fun x => f x + g x).sum := by
  induction l with
  | nil => rfl
  | cons x r ih =>
    simp only [List.map_cons, List.sum_cons]
    omega
open Classical in
/-- What stands in several that share nothing. -/
theorem sumP_parts (t : T) : ∀ (l : List Nat) (P : Nat → Prop) (A : Nat → Nat → Prop), l.Nodup → (∀ k ∈ l, ∀ j, A k j → P j) → (∀ k ∈ l, ∀ k' ∈ l, ∀ j, A k j → A k' j → k = k') → (l.map fun k => sumP t (A k)).sum ≤ sumP t P
  | [], P, A, _, _, _ => Nat.zero_le _
  | k :: r, P, A, hn, hP, hA => by
    obtain ⟨hk, hr⟩ := List.nodup_cons.1 hn
    have ih := sumP_parts t r (fun j => P j ∧ ¬ A k j) A hr (fun k' h' j hj => ⟨hP k' (List.mem_cons_of_mem _ h') j hj, fun h2 => hk (by rw [hA k (List.mem_cons_self ..) k' (List.mem_cons_of_mem _ h') j h2 hj]; exact h')⟩)
      (fun a ha b hb j => hA a (List.mem_cons_of_mem _ ha) b (List.mem_cons_of_mem _ hb) j)
    rw [List.map_cons, List.sum_cons]
    refine Nat.le_trans (Nat.add_le_add_left ih _) ?_
    unfold sumP
    rw [sum_add]
    refine sum_le fun j _ => ?_
    by_cases h1 : A k j
    · rw [if_pos h1, if_neg (fun g => g.2 h1), if_pos (hP k (List.mem_cons_self ..) j h1)]
      omega
    · rw [if_neg h1]
      by_cases h2 : P j
      · rw [if_pos ⟨h2, h1⟩, if_pos h2]
        omega
      · rw [if_neg (fun g => h2 g.1), if_neg h2]
        omega
theorem Up.line {t : T} {x a b : Nat} (h : Up t x a) (g : Up t x b) : Up t a b ∨ Up t b a := by
  induction h with
  | refl x => exact .inl g
  | step e h2 ih =>
    rcases Up.tail e g with rfl | g
    · exact .inr (.step e h2)
    · exact ih g
theorem sumL_map (c : N → Nat) (f : Nat → N) : ∀ l : List Nat, sumL c (l.map f) = (l.map fun k => c (f k)).sum
  | [] => rfl
  | x :: r => by
    rw [List.map_cons, List.map_cons, List.sum_cons, ← sumL_map c f r]
    rfl
open Classical in
theorem sumP_one (t : T) (k : Nat) (hk : k < t.length) (P : Nat → Prop) (h : ¬ P k) : cost (bareP (nodeAt t k).nd) + sumP t P ≤ sumP t fun j => j = k ∨ P j := by
  have h1 : cost (bareP (nodeAt t k).nd) ≤ ((List.range t.length).map fun j => if j = k then cost (bareP (nodeAt t j).nd) else 0).sum := by
    have : ∀ n, k < n → cost (bareP (nodeAt t k).nd) ≤ ((List.range n).map fun j => if j = k then cost (bareP (nodeAt t j).nd) else 0).sum := by
      intro n
      induction n with
      | zero => intro h; omega
      | succ n ih =>
        intro hn
        rw [List.range_succ, List.map_append, List.sum_append]
        by_cases e : k = n
        · subst e
          simp
        · have := ih (by omega)
          omega
    exact this _ hk
  refine Nat.le_trans (Nat.add_le_add_right h1 _) ?_
  unfold sumP
  rw [sum_add]
  refine sum_le fun j _ => ?_
  by_cases e : j = k
  · subst e
    rw [if_pos rfl, if_neg h, if_pos (.inl rfl)]
    omega
  · rw [if_neg e]
    by_cases h2 : P j
    · rw [if_pos h2, if_pos (.inr h2)]
      omega
    · rw [if_neg h2]
      omega
/-- All that stands in a node weighs no more than what there is within it. -/
theorem whole_wt {t : T} (h : Good t) : ∀ (f d i : Nat), sumW d (wholeF f t i) ≤ sumP t fun j => j ≠ i ∧ Up t j i
  | 0, d, i => by
    have : sumW d (wholeF 0 t i) = 0 := by cases d <;> rfl
    omega
  | f + 1, 0, i => Nat.zero_le _
  | f + 1, d + 1, i => by
    obtain ⟨r, hr⟩ := h.ends
    rw [wholeF]
    show sumL _ _ ≤ _
    rw [sumL_map]
    refine Nat.le_trans (sum_le (g := fun k => sumP t fun j => Up t j k) fun k hk => ?_) (sumP_parts t (kidsAt t i) _ (fun k j => Up t j k) (h.nodup i) (fun k hk j hj => ?_) (fun k hk k' hk' j hj hj' => ?_))
    · obtain ⟨k1, k2⟩ := h.kid i k hk
      have ih := whole_wt h f d k
      have one := sumP_one t k k1 (fun j => j ≠ k ∧ Up t j k) (fun g => g.1 rfl)
      have e : (fun j => j = k ∨ (j ≠ k ∧ Up t j k)) = fun j => Up t j k := by
        funext j
        refine propext ⟨fun g => g.elim (fun e => e ▸ .refl j) (fun g => g.2), fun g => ?_⟩
        by_cases e : j = k
        · exact .inl e
        · exact .inr ⟨e, g⟩
      rw [e] at one
      refine Nat.le_trans ?_ one
      show cost (bareP (nodeAt t k).nd) + sumW d (wholeF f t k) ≤ _
      omega
    · obtain ⟨k1, k2⟩ := h.kid i k hk
      refine ⟨fun e => ?_, hj.trans (.step k2 (.refl i))⟩
      subst e
      have := hj.rank hr
      have := hr _ _ k2
      omega
    · obtain ⟨k1, k2⟩ := h.kid i k hk
      obtain ⟨k3, k4⟩ := h.kid i k' hk'
      have a1 := hr _ _ k2
      have a2 := hr _ _ k4
      rcases hj.line hj' with g | g
      · rcases g.tail k2 with e | g
        · exact e
        · have := g.rank hr
          omega
      · rcases g.tail k4 with e | g
        · exact e.symm
        · have := g.rank hr
          omega
end Go.Proofs.Ythbklcpjbeelhaa.Dom
namespace Go.Proofs.Ythbklcpjbeelhaa.Dom
open Go.Lib
set_option maxRecDepth 100000
set_option linter.unusedVariables false

/-- What stands in a node hangs on what can be reached alone. -/
theorem wholeF_congr {t u : T} {Q : Nat → Prop} (hk : ∀ j, Q j → kidsAt u j = kidsAt t j) (hn : ∀ j, Q j → (nodeAt u j).nd = (nodeAt t j).nd) (hin : ∀ j, Q j → ∀ k ∈ kidsAt t j, Q k) : ∀ f i, Q i → wholeF f u i = wholeF f t i
  | 0, i, _ => rfl
  | f + 1, i, hi => by
    rw [wholeF, wholeF, hk i hi]
    refine List.map_congr_left fun k hkk => ?_
    have hq := hin i hi k hkk
    rw [hn k hq, wholeF_congr hk hn hin f k hq]
theorem wholeF_root {t u : T} {Q : Nat → Prop} (hk : ∀ j, Q j → kidsAt u j = kidsAt t j) (hn : ∀ j, Q j → (nodeAt u j).nd = (nodeAt t j).nd) (hin : ∀ j, Q j → ∀ k ∈ kidsAt t j, Q k) (h0 : ∀ k ∈ kidsAt t 0, Q k) {l : List Nat} (hl : kidsAt u 0 = kidsAt t 0 ++ l) (f : Nat) :
    wholeF (f + 1) u 0 = wholeF (f + 1) t 0 ++ l.map fun k => withKids (bareP (nodeAt u k).nd) (wholeF f u k) := by
  rw [wholeF, wholeF, hl, List.map_append]
  congr 1
  refine List.map_congr_left fun k hkk => ?_
  have hq := h0 k hkk
  rw [hn k hq, wholeF_congr hk hn hin f k hq]
theorem bareP_twice (x : N) : bareP (bareP x) = bareP x := by
  by_cases h : x.kind = 1
  · have e : bareP x = .mk x.kind x.space x.name x.atts [] [] := by unfold bareP; rw [if_pos h]
    rw [e]
    unfold bareP
    rw [if_pos (show N.kind (.mk x.kind x.space x.name x.atts [] []) = 1 from h)]
    rfl
  · have e : bareP x = .mk x.kind 0 [] [] x.text [] := by unfold bareP; rw [if_neg h]
    rw [e]
    unfold bareP
    rw [if_neg (show ¬ N.kind (.mk x.kind 0 [] [] x.text []) = 1 from h)]
    rfl
theorem bareP_bare (x : N) : withKids (bareP x) [] = bareP x := by
  unfold bareP
  split <;> rfl
theorem Up.root {t : T} (h : parAt t 0 = -1) {o : Nat} (g : Up t 0 o) : o = 0 := by
  cases g with
  | refl => rfl
  | step e _ => rw [h] at e; omega
theorem placeF_new {L : Nat} : ∀ (l : List Nat) (i : Nat) (r : List Nat), L ∉ l → placeF (L : Int) i (l ++ L :: r) = ((i + l.length : Nat) : Int)
  | [], i, r, _ => by
    show placeF (L : Int) i (L :: r) = _
    unfold placeF
    rw [if_pos rfl]
    rfl
  | x :: l, i, r, h => by
    show placeF (L : Int) i (x :: (l ++ L :: r)) = _
    unfold placeF
    rw [if_neg (fun e => h (by rw [show L = x by omega]; exact List.mem_cons_self ..)), placeF_new l (i + 1) r (fun e => h (List.mem_cons_of_mem _ e)), List.length_cons]
    omega
/-- A tree that has the nodes of t, and x two times more, in the root or nowhere. -/
structure Plus (t u : T) (x : N) (l : List Nat) (pa pc : Int) : Prop where
  good : Good u
  len : u.length = t.length + 2
  kids0 : kidsAt u 0 = kidsAt t 0 ++ l
  kids : ∀ j, j ≠ 0 → kidsAt u j = kidsAt t j
  nd : ∀ j, j < t.length → (nodeAt u j).nd = (nodeAt t j).nd
  na : (nodeAt u t.length).nd = bareP x
  nc : (nodeAt u (t.length + 1)).nd = bareP x
  pa : parAt u t.length = pa
  pc : parAt u (t.length + 1) = pc
theorem Plus.whole {t u : T} {x : N} {l : List Nat} {pa pc : Int} (h : Plus t u x l pa pc) (hG : Good t) (hl : ∀ k ∈ l, k = t.length ∨ k = t.length + 1) (f : Nat) : wholeF (f + 1) u 0 = wholeF (f + 1) t 0 ++ l.map fun _ => bareP x := by
  have key := wholeF_root (t := t) (u := u) (Q := fun j => j < t.length ∧ j ≠ 0) (fun j hj => h.kids j hj.2) (fun j hj => h.nd j hj.1) (fun j _ k hk => ?_) (fun k hk => ?_) h.kids0 f
  · rw [key]
    congr 1
    refine List.map_congr_left fun k hk => ?_
    have h0 : 0 < t.length := List.length_pos_iff.2 hG.some
    have hkk : kidsAt u k = [] := by
      rw [h.kids k (by rcases hl k hk with e | e <;> omega)]
      exact kids_none (by rcases hl k hk with e | e <;> omega)
    rw [wholeF_none hkk]
    rcases hl k hk with e | e
    · rw [e, h.na, bareP_twice, bareP_bare]
    · rw [e, h.nc, bareP_twice, bareP_bare]
  · obtain ⟨q1, q2⟩ := hG.kid j k hk
    exact ⟨q1, fun e => by rw [e, hG.root] at q2; omega⟩
  · obtain ⟨q1, q2⟩ := hG.kid 0 k hk
    exact ⟨q1, fun e => by rw [e, hG.root] at q2; omega⟩
/-- Made, and copied. -/
theorem plus_two {t : T} (hG : Good t) (x : N) (hx : 1 ≤ x.kind ∧ x.kind ≤ 3) : makeT t x = (t ++ [⟨bareP x, -1, []⟩], (t.length : Int)) ∧ copyT (t ++ [⟨bareP x, -1, []⟩]) (t.length : Int) = ((t ++ [⟨bareP x, -1, []⟩]) ++ [⟨bareP x, -1, []⟩], ((t.length + 1 : Nat) : Int)) ∧
    Plus t ((t ++ [⟨bareP x, -1, []⟩]) ++ [⟨bareP x, -1, []⟩]) x [] (-1) (-1) := by
  have h0 : 0 < t.length := List.length_pos_iff.2 hG.some
  have hb : 1 ≤ (bareP x).kind ∧ (bareP x).kind ≤ 3 := by rw [bareP_kind]; exact hx
  have hl1 : (t ++ [(⟨bareP x, -1, []⟩ : TN)]).length = t.length + 1 := by simp
  have n1 : ∀ i, nodeAt ((t ++ [⟨bareP x, -1, []⟩]) ++ [⟨bareP x, -1, []⟩]) i = if i = t.length + 1 then ⟨bareP x, -1, []⟩ else if i = t.length then ⟨bareP x, -1, []⟩ else nodeAt t i := fun i => by
    rw [nodeAt_snoc, hl1, nodeAt_snoc]
  refine ⟨?_, ?_, good_snoc (good_snoc hG _ hb) _ hb, by simp, ?_, fun j hj => ?_, fun j hj => ?_, ?_, ?_, ?_, ?_⟩
  · unfold makeT
    rw [if_neg (by omega)]
  · unfold copyT
    rw [if_neg (by unfold there; rw [hl1]; omega), show ((t.length : Int)).toNat = t.length by omega, nodeAt_snoc, if_pos rfl]
    unfold makeT
    rw [if_neg (by show ¬ ((bareP x).kind < 1 ∨ 3 < (bareP x).kind); omega), hl1]
    show ((t ++ [⟨bareP x, -1, []⟩]) ++ [⟨bareP (bareP x), -1, []⟩], _) = _
    rw [bareP_twice]
  · rw [List.append_nil, kidsAt, n1, if_neg (by omega), if_neg (by omega)]
    rfl
  · rw [kidsAt, n1]
    split
    · rename_i e; rw [e]; exact (kids_none (by omega)).symm
    · split
      · rename_i e; rw [e]; exact (kids_none (Nat.le_refl _)).symm
      · rfl
  · rw [n1, if_neg (by omega), if_neg (by omega)]
  · rw [n1, if_neg (by omega), if_pos rfl]
  · rw [n1, if_pos rfl]
  · rw [parAt, n1, if_neg (by omega), if_pos rfl]
  · rw [parAt, n1, if_pos rfl]
theorem put_ins {u : T} (hG : Good u) {i : Nat} {b : Int} {k : Nat} (hi : i < u.length) (h0 : i ≠ 0) (hb : b ≠ i) (hp : parAt u i = -1) (hk : placeL (kidsAt u 0) b = (k : Int)) : putT u 0 b i = (insT u 0 k i, true) := by
  have hu : 0 < u.length := List.length_pos_iff.2 hG.some
  have hc : cutT u (i : Int) = (u, false) := by
    unfold cutT
    rw [show ((i : Int)).toNat = i by omega, hp, if_pos (.inr (by omega))]
  unfold putT
  rw [if_neg]
  · rw [hc]
    show (upd (upd u 0 fun x => { x with kids := x.kids.take (placeL (kidsAt u 0) b).toNat ++ i :: x.kids.drop (placeL (kidsAt u 0) b).toNat }) i fun x => { x with par := 0 }, true) = _
    rw [hk, show ((k : Int)).toNat = k by omega]
    rfl
  · rintro (g | g | g | g | g | g)
    · exact g ⟨⟨Int.le_refl _, by omega⟩, .inl rfl⟩
    · exact g ⟨by omega, by omega⟩
    · omega
    · exact hb g
    · exact h0 (Up.root hG.root g)
    · rw [show ((0 : Int)).toNat = 0 from rfl, hk] at g
      omega
theorem plus_ins {t u : T} {x : N} {l : List Nat} {pa pc : Int} (hG : Good t) (h : Plus t u x l pa pc) {i k : Nat} (hi : i < u.length) (h0 : i ≠ 0) (hp : parAt u i = -1) : PutE u (insT u 0 k i) i 0 k ∧ Good (insT u 0 k i) := by
  have hu : 0 < u.length := List.length_pos_iff.2 h.good.some
  have P := ins_says (t := u) (i := i) (p := 0) k hi hu (fun e => h0 e.symm)
  exact ⟨P, P.good h.good hi hu (.inl rfl) h0 hp (fun g => h0 (Up.root h.good.root g))⟩
theorem Plus.notin {t u : T} {x : N} {l : List Nat} {pa pc : Int} (hG : Good t) (h : Plus t u x l pa pc) : t.length ∉ kidsAt t 0 ∧ t.length + 1 ∉ kidsAt t 0 := by
  constructor <;> intro e
  · have := (hG.kid 0 _ e).1; omega
  · have := (hG.kid 0 _ e).1; omega
/-- Put at the end. -/
theorem plus_put1 {t u : T} {x : N} (hG : Good t) (h : Plus t u x [] (-1) (-1)) : ∃ v, putT u 0 (-1) (t.length : Int) = (v, true) ∧ Plus t v x [t.length] 0 (-1) := by
  have h0 : 0 < t.length := List.length_pos_iff.2 hG.some
  have hk : placeL (kidsAt u 0) (-1) = ((kidsAt u 0).length : Int) := by unfold placeL; rw [if_pos rfl]
  obtain ⟨P, g⟩ := plus_ins hG h (i := t.length) (k := (kidsAt u 0).length) (by have := h.len; omega) (by omega) h.pa
  refine ⟨_, put_ins h.good (by have := h.len; omega) (by omega) (by omega) h.pa hk, g, by rw [P.len]; exact h.len, ?_, fun j hj => by rw [P.kids, if_neg hj]; exact h.kids j hj, fun j hj => by rw [P.nd]; exact h.nd j hj, by rw [P.nd]; exact h.na, by rw [P.nd]; exact h.nc, by rw [P.par, if_pos rfl]; rfl, by rw [P.par, if_neg (by omega)]; exact h.pc⟩
  rw [P.kids, if_pos rfl, List.take_length, List.drop_length, h.kids0, List.append_nil]
/-- The copy put ahead of it. -/
theorem plus_put2 {t u : T} {x : N} (hG : Good t) (h : Plus t u x [t.length] 0 (-1)) : ∃ v, putT u 0 (t.length : Int) ((t.length + 1 : Nat) : Int) = (v, true) ∧ Plus t v x [t.length + 1, t.length] 0 0 := by
  have h0 : 0 < t.length := List.length_pos_iff.2 hG.some
  have hni := (h.notin hG).1
  have hk : placeL (kidsAt u 0) (t.length : Int) = ((kidsAt t 0).length : Int) := by
    unfold placeL
    rw [if_neg (by omega), h.kids0, placeF_new _ _ _ hni]
    omega
  obtain ⟨P, g⟩ := plus_ins hG h (i := t.length + 1) (k := (kidsAt t 0).length) (by have := h.len; omega) (by omega) h.pc
  refine ⟨_, put_ins h.good (by have := h.len; omega) (by omega) (by omega) h.pc hk, g, by rw [P.len]; exact h.len, ?_, fun j hj => by rw [P.kids, if_neg hj]; exact h.kids j hj, fun j hj => by rw [P.nd]; exact h.nd j hj, by rw [P.nd]; exact h.na, by rw [P.nd]; exact h.nc, by rw [P.par, if_neg (by omega)]; exact h.pa, by rw [P.par, if_pos rfl]; rfl⟩
  rw [P.kids, if_pos rfl, h.kids0, List.take_left, List.drop_left]
/-- Cut off again. -/
theorem plus_cut1 {t u : T} {x : N} (hG : Good t) (h : Plus t u x [t.length + 1, t.length] 0 0) : ∃ v, cutT u (t.length : Int) = (v, true) ∧ Plus t v x [t.length + 1] (-1) 0 := by
  have h0 : 0 < t.length := List.length_pos_iff.2 hG.some
  obtain ⟨e, c⟩ := cut_says h.good (i := t.length) (p := 0) h.pa
  refine ⟨_, e, c.good h.good h.pa, by rw [c.len]; exact h.len, ?_, fun j hj => by rw [c.kids, if_neg hj]; exact h.kids j hj, fun j hj => by rw [c.nd]; exact h.nd j hj, by rw [c.nd]; exact h.na, by rw [c.nd]; exact h.nc, by rw [c.par, if_pos rfl], by rw [c.par, if_neg (by omega)]; exact h.pc⟩
  rw [c.kids, if_pos rfl, h.kids0, List.erase_append_right _ (h.notin hG).1]
  congr 1
  rw [List.erase_cons_tail (by simp), List.erase_cons_head]
theorem plus_cut2 {t u : T} {x : N} (hG : Good t) (h : Plus t u x [t.length + 1] (-1) 0) : ∃ v, cutT u ((t.length + 1 : Nat) : Int) = (v, true) ∧ Plus t v x [] (-1) (-1) := by
  have h0 : 0 < t.length := List.length_pos_iff.2 hG.some
  obtain ⟨e, c⟩ := cut_says h.good (i := t.length + 1) (p := 0) h.pc
  refine ⟨_, e, c.good h.good h.pc, by rw [c.len]; exact h.len, ?_, fun j hj => by rw [c.kids, if_neg hj]; exact h.kids j hj, fun j hj => by rw [c.nd]; exact h.nd j hj, by rw [c.nd]; exact h.na, by rw [c.nd]; exact h.nc, by rw [c.par, if_neg (by omega)]; exact h.pa, by rw [c.par, if_pos rfl]⟩
  rw [c.kids, if_pos rfl, h.kids0, List.erase_append_right _ (h.notin hG).2, List.erase_cons_head]
end Go.Proofs.Ythbklcpjbeelhaa.Dom
