/- Plain Lean: text that is put behind all that stands in the rightmost element stands behind all text of a tree. -/
import Derived.Test.YtlgmjnnfndedbaaPlaceHo
import Derived.Test.YtlgmjnnfndedbaaTreeNd
import Derived.Test.YtlgmjnnfndedbaaLinkW
namespace Go.Proofs.Ytlgmjnnfndedbaa.Plc
open Go.Lib Dom
set_option maxRecDepth 100000
set_option linter.unusedVariables false
/-- A node's own text. -/
def ownT (t : T) (k : Nat) : List UInt8 := if kindAt t k = 2 then (nodeAt t k).nd.text else []
/-- All text that stands in a node, in order, so deep at most. -/
def tw : Nat → T → Nat → List UInt8
  | 0, _, _ => []
  | f + 1, t, i => (kidsAt t i).flatMap fun k => ownT t k ++ tw f t k
theorem up_kid {t : T} {c k j : Nat} (h : Up t c k) (e : parAt t k = (j : Nat)) : Up t c j := by
  induction h with
  | refl x => exact .step e (.refl _)
  | step h' g ih => exact .step h' (ih e)
theorem tw_congr {t u : T} {Q : Nat → Prop} (hk : ∀ j, Q j → kidsAt u j = kidsAt t j) (hn : ∀ j, Q j → ∀ k ∈ kidsAt t j, ownT u k = ownT t k) (hin : ∀ j, Q j → ∀ k ∈ kidsAt t j, Q k) : ∀ f i, Q i → tw f u i = tw f t i
  | 0, i, _ => rfl
  | f + 1, i, hi => by
    show (kidsAt u i).flatMap _ = (kidsAt t i).flatMap _
    rw [hk i hi]
    have : ∀ l : List Nat, (∀ k ∈ l, k ∈ kidsAt t i) → l.flatMap (fun k => ownT u k ++ tw f u k) = l.flatMap fun k => ownT t k ++ tw f t k := by
      intro l hl
      induction l with
      | nil => rfl
      | cons x r ih =>
        rw [List.flatMap_cons, List.flatMap_cons, ih fun k hk => hl k (List.mem_cons_of_mem _ hk), hn i hi x (hl x List.mem_cons_self), tw_congr hk hn hin f x (hin i hi x (hl x List.mem_cons_self))]
    exact this _ fun k hk => hk
/-- What stands in c alone has turned: behind its last kid, or in it. -/
structure Behind (t u : T) (c : Nat) (x : List UInt8) : Prop where
  kids : ∀ j, j < t.length → j ≠ c → kidsAt u j = kidsAt t j
  last : (∃ n, kidsAt u c = kidsAt t c ++ [n] ∧ t.length ≤ n ∧ ownT u n = x ∧ kidsAt u n = [] ∧ ∀ j, j < t.length → ownT u j = ownT t j) ∨
    (∃ l, kidsAt u c = kidsAt t c ∧ (∃ L, kidsAt t c = L ++ [l]) ∧ kindAt t l = 2 ∧ ownT u l = ownT t l ++ x ∧ ∀ j, j < t.length → j ≠ l → ownT u j = ownT t j)
section
variable {t u : T} {c : Nat} {x : List UInt8}
theorem kids_none_of {t : T} (hG : Dom.Good t) {l c : Nat} (hp : parAt t l = (c : Nat)) (h : kindAt t l = 2) : kidsAt t l = [] := by
  cases hk : kidsAt t l with
  | nil => rfl
  | cons k r =>
    have hm : k ∈ kidsAt t l := by rw [hk]; exact List.mem_cons_self
    obtain ⟨_, h2⟩ := hG.kid l k hm
    obtain ⟨_, _, h3⟩ := hG.par_there h2
    rcases h3 with h3 | h3
    · subst h3
      rw [hG.root] at hp
      omega
    · omega
theorem tw_none {t : T} {i : Nat} (h : kidsAt t i = []) : ∀ f, tw f t i = []
  | 0 => rfl
  | f + 1 => by show (kidsAt t i).flatMap _ = []; rw [h]; rfl
/-- Where c does not stand, nothing has turned. -/
theorem Behind.far (h : Behind t u c x) (hG : Dom.Good t) (f : Nat) {k : Nat} (hk : k < t.length) (hn : ¬ Up t c k) : tw f u k = tw f t k := by
  refine tw_congr (Q := fun j => j < t.length ∧ ¬ Up t c j) (fun j ⟨h1, h2⟩ => h.kids j h1 (fun e => h2 (e ▸ .refl _))) (fun j ⟨h1, h2⟩ k hk => ?_) (fun j ⟨h1, h2⟩ k hk => ?_) f k ⟨hk, hn⟩
  · obtain ⟨g1, g2⟩ := hG.kid j k hk
    rcases h.last with ⟨n, _, _, _, _, ho⟩ | ⟨l, _, ⟨L, hL⟩, _, _, ho⟩
    · exact ho k g1
    · refine ho k g1 fun e => ?_
      subst e
      have h3 := (hG.kid c k (by rw [hL]; simp)).2
      have h4 : (j : Int) = (c : Int) := by rw [← g2, ← h3]
      have : j = c := by omega
      subst this
      exact h2 (.refl _)
  · obtain ⟨g1, g2⟩ := hG.kid j k hk
    exact ⟨g1, fun e => h2 (up_kid e g2)⟩
theorem flat_same {l : List Nat} {F G : Nat → List UInt8} (h : ∀ k ∈ l, F k = G k) : l.flatMap F = l.flatMap G := by
  induction l with
  | nil => rfl
  | cons y r ih => rw [List.flatMap_cons, List.flatMap_cons, h y List.mem_cons_self, ih fun k hk => h k (List.mem_cons_of_mem _ hk)]
/-- No kid of c holds c. -/
theorem kid_far (hG : Dom.Good t) {k : Nat} (hk : k ∈ kidsAt t c) : ¬ Up t c k := by
  obtain ⟨r, hr⟩ := hG.ends
  have hm : ∀ {a b : Nat}, Up t a b → r b ≤ r a := by
    intro a b h
    induction h with
    | refl x => exact Nat.le_refl _
    | step e g ih => exact Nat.le_trans ih (Nat.le_of_lt (hr _ _ e))
  intro e
  have h1 := hm e
  have h2 := hr k c (hG.kid c k hk).2
  omega
/-- In c itself. -/
theorem Behind.here (h : Behind t u c x) (hG : Dom.Good t) (f : Nat) : tw (f + 1) u c = tw (f + 1) t c ++ x := by
  show (kidsAt u c).flatMap _ = (kidsAt t c).flatMap _ ++ x
  rcases h.last with ⟨n, hk, hn, hx, hnk, ho⟩ | ⟨l, hk, ⟨L, hL⟩, h2, hx, ho⟩
  · rw [hk, List.flatMap_append]
    congr 1
    · exact flat_same fun k hk => by rw [ho k (hG.kid c k hk).1, h.far hG f (hG.kid c k hk).1 (kid_far hG hk)]
    · simp [hx, tw_none hnk]
  · have hlm : l ∈ kidsAt t c := by rw [hL]; simp
    have hp := (hG.kid c l hlm).2
    have hnd := hG.nodup c
    rw [hL] at hnd
    have hl0 := kids_none_of hG hp h2
    have hlt := (hG.kid c l hlm).1
    have hlc : l ≠ c := fun e => hG.far c (e ▸ hp) rfl
    have hu0 : kidsAt u l = [] := by rw [h.kids l hlt hlc]; exact hl0
    rw [hk, hL, List.flatMap_append, List.flatMap_append, List.append_assoc]
    congr 1
    · refine flat_same fun k hk' => ?_
      have hkm : k ∈ kidsAt t c := by rw [hL]; exact List.mem_append_left _ hk'
      have hkl : k ≠ l := fun e => by
        subst e
        exact (List.nodup_append.1 hnd).2.2 k hk' k (by simp) rfl
      rw [ho k (hG.kid c k hkm).1 hkl, h.far hG f (hG.kid c k hkm).1 (kid_far hG hkm)]
    · simp [hx, tw_none hu0, tw_none hl0]
end
/-! ### Along the path of what is open -/
/-- Each one is the last kid of the one ahead. -/
structure PathP (t : T) (p : Nat → Nat) (n : Nat) : Prop where
  pos : 0 < n
  root : p 0 = 0
  last : ∀ i, i + 1 < n → ∃ L, kidsAt t (p i) = L ++ [p (i + 1)]
section
variable {t u : T} {p : Nat → Nat} {n : Nat} {x : List UInt8}
theorem PathP.mem (h : PathP t p n) {i : Nat} (hi : i + 1 < n) : p (i + 1) ∈ kidsAt t (p i) := by
  obtain ⟨L, hL⟩ := h.last i hi
  rw [hL]
  simp
theorem PathP.par (h : PathP t p n) (hG : Dom.Good t) {i : Nat} (hi : i + 1 < n) : parAt t (p (i + 1)) = (p i : Nat) := (hG.kid _ _ (h.mem hi)).2
theorem PathP.lt (h : PathP t p n) (hG : Dom.Good t) {i : Nat} (hi : i < n) : p i < t.length := by
  cases i with
  | zero => rw [h.root]; exact List.length_pos_iff.2 hG.some
  | succ i => exact (hG.kid _ _ (h.mem hi)).1
theorem PathP.inj (h : PathP t p n) (hG : Dom.Good t) {i j : Nat} (hi : i < n) (hj : j < n) (e : p i = p j) : i = j := by
  obtain ⟨r, hr⟩ := hG.ends
  have hm : ∀ k a, a + k < n → r (p a) + k ≤ r (p (a + k)) := by
    intro k
    induction k with
    | zero => exact fun a _ => Nat.le_refl _
    | succ k ih =>
      intro a ha
      have h1 := ih a (by omega)
      have h2 := hr _ _ (h.par hG (i := a + k) (by omega))
      rw [show a + (k + 1) = a + k + 1 by omega]
      omega
  rcases Nat.lt_trichotomy i j with q | q | q
  · have := hm (j - i) i (by omega)
    rw [show i + (j - i) = j by omega, e] at this
    omega
  · exact q
  · have := hm (i - j) j (by omega)
    rw [show j + (i - j) = i by omega, e] at this
    omega
theorem PathP.up (h : PathP t p n) (hG : Dom.Good t) : ∀ {c k : Nat}, Up t c k → ∀ i, i < n → c = p i → ∃ j, j < n ∧ k = p j := by
  intro c k g
  induction g with
  | refl y => exact fun i hi e => ⟨i, hi, e⟩
  | step e g ih =>
    intro i hi hc
    cases i with
    | zero =>
      rw [hc, h.root, hG.root] at e
      omega
    | succ i =>
      rw [hc, h.par hG hi] at e
      exact ih i (by omega) (by omega)
/-- Text behind all of the last one stands behind all. -/
theorem tw_behind (h : PathP t p n) (hG : Dom.Good t) (hB : Behind t u (p (n - 1)) x) (f : Nat) : ∀ m i, i + m + 1 = n → tw (f + m + 1) u (p i) = tw (f + m + 1) t (p i) ++ x
  | 0, i, hi => by
    obtain rfl : i = n - 1 := by omega
    exact hB.here hG f
  | m + 1, i, hi => by
    have ih := tw_behind h hG hB f m (i + 1) (by omega)
    obtain ⟨L, hL⟩ := h.last i (by omega)
    have hne : p i ≠ p (n - 1) := fun e => by have := h.inj hG (by omega) (by omega) e; omega
    have hnd := hG.nodup (p i)
    rw [hL] at hnd
    have hown : ∀ k ∈ kidsAt t (p i), ownT u k = ownT t k := fun k hk => by
      obtain ⟨g1, g2⟩ := hG.kid _ k hk
      rcases hB.last with ⟨q, _, _, _, _, ho⟩ | ⟨l, _, ⟨L', hL'⟩, _, _, ho⟩
      · exact ho k g1
      · refine ho k g1 fun e => ?_
        subst e
        have h3 := (hG.kid (p (n - 1)) k (by rw [hL']; simp)).2
        rw [h3] at g2
        exact hne (by omega)
    show (kidsAt u (p i)).flatMap _ = (kidsAt t (p i)).flatMap _ ++ x
    rw [hB.kids _ (h.lt hG (by omega)) hne, hL, List.flatMap_append, List.flatMap_append, List.append_assoc]
    congr 1
    · refine flat_same fun k hk => ?_
      have hkm : k ∈ kidsAt t (p i) := by rw [hL]; exact List.mem_append_left _ hk
      obtain ⟨g1, g2⟩ := hG.kid _ k hkm
      rw [hown k hkm, hB.far hG _ g1 fun e => ?_]
      obtain ⟨j, hj, rfl⟩ := h.up hG e (n - 1) (by omega) rfl
      cases j with
      | zero =>
        rw [h.root, hG.root] at g2
        omega
      | succ j =>
        rw [h.par hG hj] at g2
        have hji := h.inj hG (i := j) (j := i) (by omega) (by omega) (by omega)
        subst hji
        exact (List.nodup_append.1 hnd).2.2 _ hk _ (by simp) rfl
    · simp only [List.flatMap_cons, List.flatMap_nil, List.append_nil, List.append_assoc]
      rw [hown _ (h.mem (by omega)), show f + (m + 1) = f + m + 1 by omega, ih]
end
/-! ### What calls do -/
theorem snoc_kids (t : T) (X : N) (j : Nat) : kidsAt (t ++ [⟨X, -1, []⟩]) j = kidsAt t j := by
  unfold kidsAt
  rw [nodeAt_snoc]
  split
  · rename_i e
    rw [e, nodeAt_none (Nat.le_refl _)]
    rfl
  · rfl
theorem snoc_par (t : T) (X : N) (j : Nat) : parAt (t ++ [⟨X, -1, []⟩]) j = parAt t j := by
  unfold parAt
  rw [nodeAt_snoc]
  split
  · rename_i e
    rw [e, nodeAt_none (Nat.le_refl _)]
    rfl
  · rfl
/-- A new node, put behind all that stands in c. -/
theorem app_new {t : T} (hG : Dom.Good t) {c : Nat} (hh : Dom.holds t c) (X : N) (hX : 1 ≤ X.kind ∧ X.kind ≤ 3) :
    ∃ u, (putT (t ++ [⟨X, -1, []⟩]) (c : Int) (-1) (t.length : Int)).1 = u ∧ u.length = t.length + 1 ∧ (∀ j, kidsAt u j = if j = c then kidsAt t c ++ [t.length] else kidsAt t j) ∧ (∀ j, j < t.length → (nodeAt u j).nd = (nodeAt t j).nd) ∧ (nodeAt u t.length).nd = X := by
  have hc : c < t.length := by have := hh.1.2; omega
  have hG1 := good_snoc hG X hX
  have hl : (t ++ [(⟨X, -1, []⟩ : TN)]).length = t.length + 1 := by simp
  have h1 : holds (t ++ [(⟨X, -1, []⟩ : TN)]) c := by
    refine ⟨⟨by omega, by rw [hl]; omega⟩, hh.2.imp id fun e => ?_⟩
    unfold kindAt
    rw [nodeAt_snoc, if_neg (by omega)]
    exact e
  have hp := put_new (t := t ++ [⟨X, -1, []⟩]) hG1 (i := t.length) (p := c) (b := -1) (by rw [hl]; omega) (by omega) ⟨h1, .inl rfl⟩ (by rw [hl]; omega) (by omega) (by omega) (by rw [snoc_par]; unfold parAt; rw [nodeAt_none (Nat.le_refl _)]; rfl) (by rw [snoc_kids]; unfold kidsAt; rw [nodeAt_none (Nat.le_refl _)]; rfl)
  rw [hp]
  have hk : (placeL (kidsAt (t ++ [(⟨X, -1, []⟩ : TN)]) c) (-1)).toNat = (kidsAt t c).length := by
    rw [snoc_kids]
    unfold placeL
    rw [if_pos rfl]
    omega
  rw [hk]
  have hs := ins_says (t := t ++ [(⟨X, -1, []⟩ : TN)]) (i := t.length) (p := c) (kidsAt t c).length (by rw [hl]; omega) (by rw [hl]; omega) (by omega)
  refine ⟨_, rfl, by rw [hs.len, hl], fun j => ?_, fun j hj => ?_, ?_⟩
  · rw [hs.kids]
    split
    · rw [snoc_kids, List.take_of_length_le (Nat.le_refl _), List.drop_of_length_le (Nat.le_refl _)]
    · rw [snoc_kids]
  · rw [hs.nd, nodeAt_snoc, if_neg (by omega)]
  · rw [hs.nd, nodeAt_snoc, if_pos rfl]
theorem own_of {t u : T} {j : Nat} (h : (nodeAt u j).nd = (nodeAt t j).nd) : ownT u j = ownT t j := by unfold ownT kindAt; rw [h]
theorem behind_new {t u : T} {c : Nat} {X : N} (hG : Dom.Good t) (hc : c < t.length) (hk : ∀ j, kidsAt u j = if j = c then kidsAt t c ++ [t.length] else kidsAt t j) (hn : ∀ j, j < t.length → (nodeAt u j).nd = (nodeAt t j).nd) (hx : (nodeAt u t.length).nd = X) : Behind t u c (if X.kind = 2 then X.text else []) where
  kids := fun j _ hj => by rw [hk, if_neg hj]
  last := .inl ⟨t.length, by rw [hk, if_pos rfl], Nat.le_refl _, by unfold ownT kindAt; rw [hx], by rw [hk, if_neg (by omega)]; unfold kidsAt; rw [nodeAt_none (Nat.le_refl _)]; rfl, fun j hj => own_of (hn j hj)⟩
/-- The path goes on where the new node is an element that is open, and stays where it isn't. -/
theorem PathP.same {t u : T} {p : Nat → Nat} {n : Nat} (h : PathP t p n) (hG : Dom.Good t) (hk : ∀ j, j ≠ p (n - 1) → kidsAt u j = kidsAt t j) : PathP u p n :=
  ⟨h.pos, h.root, fun i hi => by rw [hk _ (fun e => by have := h.inj hG (by omega) (by omega) e; omega)]; exact h.last i hi⟩
theorem PathP.snoc {t u : T} {p q : Nat → Nat} {n : Nat} (h : PathP t p n) (hG : Dom.Good t) (hk : ∀ j, kidsAt u j = if j = p (n - 1) then kidsAt t (p (n - 1)) ++ [t.length] else kidsAt t j) (hq : ∀ i, i < n → q i = p i) (hn : q n = t.length) : PathP u q (n + 1) where
  pos := by omega
  root := by rw [hq 0 h.pos]; exact h.root
  last := fun i hi => by
    by_cases e : i + 1 = n
    · subst e
      refine ⟨kidsAt t (p i), ?_⟩
      rw [hn, hq i (by omega), hk, Nat.add_sub_cancel, if_pos rfl]
    · obtain ⟨L, hL⟩ := h.last i (by omega)
      refine ⟨L, ?_⟩
      rw [hq i (by omega), hq (i + 1) (by omega), hk, if_neg (fun e' => by have := h.inj hG (by omega) (by omega) e'; omega)]
      exact hL
theorem PathP.less {t : T} {p : Nat → Nat} {n m : Nat} (h : PathP t p n) (hm : 0 < m) (hl : m ≤ n) : PathP t p m := ⟨hm, h.root, fun i hi => h.last i (by omega)⟩
end Go.Proofs.Ytlgmjnnfndedbaa.Plc
