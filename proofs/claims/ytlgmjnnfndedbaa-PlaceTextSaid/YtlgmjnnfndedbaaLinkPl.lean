/- Plain Lean: a tree whose nodes are linked: each knows where it stands, its first and last kid, and those beside it. What such links tell of a tree of layer 10. -/
import Derived.Test.YtlgmjnnfndedbaaTreeMove
namespace Go.Proofs.Ytlgmjnnfndedbaa.Dom
open Go.Lib
set_option maxRecDepth 100000
set_option linter.unusedVariables false

/-- Numbers of those about a node; -1: none. -/
structure Lk where
  par : Int
  first : Int
  last : Int
  prev : Int
  next : Int
def Lk.none : Lk := ⟨-1, -1, -1, -1, -1⟩
abbrev Lks := Nat → Lk
def headI : List Nat → Int
  | [] => -1
  | x :: _ => x
def lastI (l : List Nat) : Int := headI l.reverse
theorem headI_neg {l : List Nat} : headI l = -1 ↔ l = [] := by
  cases l with
  | nil => simp [headI]
  | cons x r => simp [headI]
theorem headI_mem {l : List Nat} {x : Nat} (h : headI l = x) : x ∈ l := by
  cases l with
  | nil => simp [headI] at h
  | cons y r =>
    have h : (y : Int) = x := h
    obtain rfl : y = x := by omega
    exact List.mem_cons_self ..
theorem lastI_mem {l : List Nat} {x : Nat} (h : lastI l = x) : x ∈ l := List.mem_reverse.1 (headI_mem h)
theorem headI_is (l : List Nat) : headI l = -1 ∨ ∃ x : Nat, headI l = x ∧ x ∈ l := by
  cases l with
  | nil => exact .inl rfl
  | cons y r => exact .inr ⟨y, rfl, List.mem_cons_self ..⟩
theorem lastI_is (l : List Nat) : lastI l = -1 ∨ ∃ x : Nat, lastI l = x ∧ x ∈ l := by
  rcases headI_is l.reverse with h | ⟨x, h, g⟩
  · exact .inl h
  · exact .inr ⟨x, h, List.mem_reverse.1 g⟩
theorem headI_append (a b : List Nat) : headI (a ++ b) = if a = [] then headI b else headI a := by
  cases a with
  | nil => simp
  | cons x r => simp [headI]
theorem lastI_append (a b : List Nat) : lastI (a ++ b) = if b = [] then lastI a else lastI b := by
  unfold lastI
  rw [List.reverse_append, headI_append]
  simp [List.reverse_eq_nil_iff]
theorem lastI_snoc (a : List Nat) (x : Nat) : lastI (a ++ [x]) = x := by
  rw [lastI_append, if_neg (by simp)]
  rfl
theorem lastI_cons (x : Nat) (b : List Nat) : lastI (x :: b) = if b = [] then (x : Int) else lastI b := lastI_append [x] b
/-- Who comes behind a, who stands ahead of b, among the kids of p. -/
def nxt (f : Lks) (p : Nat) (a : Int) : Int := if a = -1 then (f p).first else (f a.toNat).next
def prv (f : Lks) (p : Nat) (b : Int) : Int := if b = -1 then (f p).last else (f b.toNat).prev
/-- They stand side by side. -/
def Edge (f : Lks) (p : Nat) (a b : Int) : Prop := nxt f p a = b ∧ prv f p b = a
def Chain (f : Lks) (p : Nat) (l : List Nat) : Prop := ∀ A B, l = A ++ B → Edge f p (lastI A) (headI B)
theorem Chain.first {f : Lks} {p : Nat} {l : List Nat} (h : Chain f p l) : (f p).first = headI l := (h [] l rfl).1
theorem Chain.last {f : Lks} {p : Nat} {l : List Nat} (h : Chain f p l) : (f p).last = lastI l := (h l [] (by simp)).2
theorem Chain.next {f : Lks} {p x : Nat} {A B : List Nat} (h : Chain f p (A ++ x :: B)) : (f x).next = headI B := by
  have := (h (A ++ [x]) B (by simp)).1
  rw [lastI_snoc] at this
  unfold nxt at this
  rw [if_neg (by omega)] at this
  exact this
theorem Chain.prev {f : Lks} {p x : Nat} {A B : List Nat} (h : Chain f p (A ++ x :: B)) : (f x).prev = lastI A := by
  have := (h A (x :: B) rfl).2
  have e : headI (x :: B) = (x : Int) := rfl
  rw [e] at this
  unfold prv at this
  rw [if_neg (by omega)] at this
  exact this
/-- Two are let stand side by side. -/
def setL (f : Lks) (i : Nat) (g : Lk → Lk) : Lks := fun k => if k = i then g (f k) else f k
def joinA (f : Lks) (p : Nat) (a b : Int) : Lks := if a = -1 then setL f p fun x => { x with first := b } else setL f a.toNat fun x => { x with next := b }
def joinB (f : Lks) (p : Nat) (a b : Int) : Lks := if b = -1 then setL f p fun x => { x with last := a } else setL f b.toNat fun x => { x with prev := a }
def joinF (f : Lks) (p : Nat) (a b : Int) : Lks := joinB (joinA f p a b) p a b
theorem setL_at (f : Lks) (i : Nat) (g : Lk → Lk) (k : Nat) : setL f i g k = if k = i then g (f k) else f k := rfl
theorem nxt_join (f : Lks) (p q : Nat) (a b a' : Int) (ha : -1 ≤ a) (ha' : -1 ≤ a') : nxt (joinF f p a b) q a' = if a' = a ∧ (a = -1 → q = p) then b else nxt f q a' := by
  have hB : ∀ (g : Lks) k, (joinB g p a b k).first = (g k).first ∧ (joinB g p a b k).next = (g k).next := by
    intro g k
    unfold joinB
    split <;> (rw [setL_at]; split <;> exact ⟨rfl, rfl⟩)
  unfold nxt joinF
  rw [(hB _ _).1, (hB _ _).2]
  unfold joinA
  by_cases e : a = -1
  · subst e
    rw [if_pos rfl, setL_at, setL_at]
    by_cases e' : a' = -1
    · subst e'
      rw [if_pos rfl]
      by_cases e2 : q = p
      · rw [if_pos e2, if_pos ⟨rfl, fun _ => e2⟩]
      · rw [if_neg e2, if_neg (fun g => e2 (g.2 rfl)), if_pos rfl]
    · rw [if_neg e', if_neg (show ¬ (a' = -1 ∧ ((-1 : Int) = -1 → q = p)) from fun g => e' g.1)]
      split <;> rfl
  · rw [if_neg e, setL_at, setL_at]
    by_cases e' : a' = -1
    · rw [if_pos e', if_neg (show ¬ (a' = a ∧ (a = -1 → q = p)) from fun g => e (g.1 ▸ e'))]
      split <;> rfl
    · rw [if_neg e']
      by_cases e2 : a' = a
      · subst e2
        rw [if_pos rfl, if_pos ⟨rfl, fun g => absurd g e⟩]
      · rw [if_neg (show ¬ a'.toNat = a.toNat by omega), if_neg (show ¬ (a' = a ∧ (a = -1 → q = p)) from fun g => e2 g.1), if_neg e']
theorem prv_join (f : Lks) (p q : Nat) (a b b' : Int) (hb : -1 ≤ b) (hb' : -1 ≤ b') : prv (joinF f p a b) q b' = if b' = b ∧ (b = -1 → q = p) then a else prv f q b' := by
  have hA : ∀ (g : Lks) k, (joinA g p a b k).last = (g k).last ∧ (joinA g p a b k).prev = (g k).prev := by
    intro g k
    unfold joinA
    split <;> (rw [setL_at]; split <;> exact ⟨rfl, rfl⟩)
  unfold prv joinF joinB
  by_cases e : b = -1
  · subst e
    rw [if_pos rfl, setL_at, setL_at]
    by_cases e' : b' = -1
    · subst e'
      rw [if_pos rfl]
      by_cases e2 : q = p
      · rw [if_pos e2, if_pos ⟨rfl, fun _ => e2⟩]
      · rw [if_neg e2, if_neg (fun g => e2 (g.2 rfl)), if_pos rfl, (hA _ _).1]
    · rw [if_neg e', if_neg (show ¬ (b' = -1 ∧ ((-1 : Int) = -1 → q = p)) from fun g => e' g.1)]
      split <;> simp only [(hA _ _).2]
  · rw [if_neg e, setL_at, setL_at]
    by_cases e' : b' = -1
    · rw [if_pos e', if_neg (show ¬ (b' = b ∧ (b = -1 → q = p)) from fun g => e (g.1 ▸ e'))]
      split <;> simp only [(hA _ _).1]
    · rw [if_neg e']
      by_cases e2 : b' = b
      · subst e2
        rw [if_pos rfl, if_pos ⟨rfl, fun g => absurd g e⟩]
      · rw [if_neg (show ¬ b'.toNat = b.toNat by omega), if_neg (show ¬ (b' = b ∧ (b = -1 → q = p)) from fun g => e2 g.1), (hA _ _).2, if_neg e']
theorem par_join (f : Lks) (p : Nat) (a b : Int) (k : Nat) : (joinF f p a b k).par = (f k).par := by
  unfold joinF joinB
  have hA : (joinA f p a b k).par = (f k).par := by
    unfold joinA
    split <;> (rw [setL_at]; split <;> rfl)
  split <;> (rw [setL_at]; split <;> exact hA)
theorem edge_join (f : Lks) (p : Nat) (a b : Int) (ha : -1 ≤ a) (hb : -1 ≤ b) : Edge (joinF f p a b) p a b :=
  ⟨by rw [nxt_join _ _ _ _ _ _ ha ha, if_pos ⟨rfl, fun _ => rfl⟩], by rw [prv_join _ _ _ _ _ _ hb hb, if_pos ⟨rfl, fun _ => rfl⟩]⟩
theorem Edge.joined {f : Lks} {q : Nat} {a' b' : Int} (h : Edge f q a' b') (p : Nat) (a b : Int) (ha : -1 ≤ a) (hb : -1 ≤ b) (ha' : -1 ≤ a') (hb' : -1 ≤ b') (h1 : a' ≠ a ∨ (a = -1 ∧ q ≠ p)) (h2 : b' ≠ b ∨ (b = -1 ∧ q ≠ p)) : Edge (joinF f p a b) q a' b' :=
  ⟨by rw [nxt_join _ _ _ _ _ _ ha ha', if_neg (by rintro ⟨g1, g2⟩; rcases h1 with h1 | ⟨h1, h3⟩; exact h1 g1; exact h3 (g2 h1))]; exact h.1,
   by rw [prv_join _ _ _ _ _ _ hb hb', if_neg (by rintro ⟨g1, g2⟩; rcases h2 with h2 | ⟨h2, h3⟩; exact h2 g1; exact h3 (g2 h2))]; exact h.2⟩
theorem headI_ge (l : List Nat) : -1 ≤ headI l := by
  rcases headI_is l with h | ⟨x, h, _⟩ <;> omega
theorem lastI_ge (l : List Nat) : -1 ≤ lastI l := by
  rcases lastI_is l with h | ⟨x, h, _⟩ <;> omega
/-- Where a list is parted in two ways. -/
theorem parted {α : Type} : ∀ {A B C D : List α}, A ++ B = C ++ D → (∃ E, C = A ++ E ∧ B = E ++ D) ∨ (∃ E, A = C ++ E ∧ D = E ++ B)
  | [], B, C, D, h => .inl ⟨C, rfl, h⟩
  | x :: A, B, [], D, h => .inr ⟨x :: A, rfl, h.symm⟩
  | x :: A, B, y :: C, D, h => by
    rw [List.cons_append, List.cons_append] at h
    injection h with h1 h2
    subst h1
    rcases parted h2 with ⟨E, e1, e2⟩ | ⟨E, e1, e2⟩
    · exact .inl ⟨E, by rw [e1]; rfl, e2⟩
    · exact .inr ⟨E, by rw [e1]; rfl, e2⟩
theorem ne_head {a b : List Nat} (h : ∀ x ∈ a, x ∉ b) (hn : a ≠ [] ∨ b ≠ []) : headI a ≠ headI b := by
  intro e
  rcases headI_is a with g | ⟨x, g, gx⟩
  · have h2 : headI b = -1 := by rw [← e]; exact g
    exact hn.elim (fun k => k (headI_neg.1 g)) (fun k => k (headI_neg.1 h2))
  · exact h x gx (headI_mem (by rw [← e]; exact g))
theorem ne_last {a b : List Nat} (h : ∀ x ∈ a, x ∉ b) (hn : a ≠ [] ∨ b ≠ []) : lastI a ≠ lastI b := by
  unfold lastI
  refine ne_head (fun x hx hy => h x (List.mem_reverse.1 hx) (List.mem_reverse.1 hy)) ?_
  simpa [List.reverse_eq_nil_iff] using hn
/-- One is cut out of a chain. -/
theorem Chain.cut {f : Lks} {p i : Nat} {A B : List Nat} (h : Chain f p (A ++ i :: B)) (hn : (A ++ i :: B).Nodup) : Chain (joinF f p (lastI A) (headI B)) p (A ++ B) := by
  intro C D e
  have hd := List.nodup_append.1 hn
  have hAB : ∀ x ∈ A, x ∉ B := fun x hx hy => hd.2.2 x hx x (List.mem_cons_of_mem _ hy) rfl
  rcases parted e with ⟨E, e1, e2⟩ | ⟨E, e1, e2⟩
  · -- within B
    subst e1
    subst e2
    by_cases hE : E = []
    · subst hE
      rw [List.append_nil]
      exact edge_join _ _ _ _ (lastI_ge _) (headI_ge _)
    · have hBn := (List.nodup_cons.1 hd.2.1).2
      have hED := List.nodup_append.1 hBn
      have g := h (A ++ i :: E) D (by simp)
      rw [lastI_append, if_neg (by simp), lastI_cons, if_neg hE] at g
      rw [lastI_append, if_neg hE]
      refine g.joined p _ _ (lastI_ge _) (headI_ge _) (lastI_ge _) (headI_ge _) (.inl ?_) (.inl ?_)
      · exact ne_last (fun x hx hy => hAB x hy (List.mem_append_left _ hx)) (.inl hE)
      · rw [headI_append, if_neg hE]
        exact ne_head (fun x hx hy => hED.2.2 x hy x hx rfl) (.inr hE)
  · subst e1
    subst e2
    by_cases hE : E = []
    · subst hE
      rw [List.append_nil]
      exact edge_join _ _ _ _ (lastI_ge _) (headI_ge _)
    · have hCE := List.nodup_append.1 hd.1
      have g := h C (E ++ i :: B) (by simp)
      rw [headI_append, if_neg hE] at g ⊢
      refine g.joined p _ _ (lastI_ge _) (headI_ge _) (lastI_ge _) (headI_ge _) (.inl ?_) (.inl ?_)
      · rw [lastI_append, if_neg hE]
        exact ne_last (fun x hx hy => hCE.2.2 x hx x hy rfl) (.inr hE)
      · exact ne_head (fun x hx hy => hAB x (List.mem_append_right _ hx) hy) (.inl hE)
/-- One is put into a chain. -/
theorem Chain.put {f : Lks} {p i : Nat} {A B : List Nat} (h : Chain f p (A ++ B)) (hn : (A ++ B).Nodup) (hi : i ∉ A ++ B) : Chain (joinF (joinF f p (lastI A) i) p i (headI B)) p (A ++ i :: B) := by
  intro C D e
  have hd := List.nodup_append.1 hn
  have hAB : ∀ x ∈ A, x ∉ B := fun x hx hy => hd.2.2 x hx x hy rfl
  have hA : lastI A ≠ (i : Int) := fun g => hi (List.mem_append_left _ (lastI_mem g))
  have hB : headI B ≠ (i : Int) := fun g => hi (List.mem_append_right _ (headI_mem g))
  have i1 : (-1 : Int) ≤ (i : Int) := by omega
  rcases parted e with ⟨E, e1, e2⟩ | ⟨E, e1, e2⟩
  · cases E with
    | nil =>
      subst e1
      rw [List.nil_append] at e2
      subst e2
      rw [List.append_nil]
      exact (edge_join f p (lastI A) i (lastI_ge _) i1).joined p _ _ i1 (headI_ge _) (lastI_ge _) i1 (.inl hA) (.inl (fun g => hB g.symm))
    | cons y E =>
      rw [List.cons_append] at e2
      injection e2 with e2 e3
      subst e2
      subst e3
      subst e1
      by_cases hE : E = []
      · subst hE
        rw [lastI_snoc]
        exact edge_join _ _ _ _ i1 (headI_ge _)
      · have hED := List.nodup_append.1 hd.2.1
        have hiE : ¬ lastI E = (i : Int) := fun g => hi (List.mem_append_right _ (List.mem_append_left _ (lastI_mem g)))
        have hiD : ¬ headI D = (i : Int) := fun g => hi (List.mem_append_right _ (List.mem_append_right _ (headI_mem g)))
        have g := h (A ++ E) D (by simp)
        rw [lastI_append, if_neg hE] at g
        rw [lastI_append, if_neg (by simp), lastI_cons, if_neg hE]
        refine (g.joined p _ _ (lastI_ge _) i1 (lastI_ge _) (headI_ge _) (.inl (ne_last (fun x hx hy => hAB x hy (List.mem_append_left _ hx)) (.inl hE))) (.inl hiD)).joined p _ _ i1 (headI_ge _) (lastI_ge _) (headI_ge _) (.inl hiE) (.inl ?_)
        rw [headI_append, if_neg hE]
        exact ne_head (fun x hx hy => hED.2.2 x hy x hx rfl) (.inr hE)
  · subst e1
    subst e2
    by_cases hE : E = []
    · subst hE
      rw [List.append_nil] at hA ⊢
      exact (edge_join f p (lastI C) i (lastI_ge _) i1).joined p _ _ i1 (headI_ge _) (lastI_ge _) i1 (.inl hA) (.inl (fun g => hB g.symm))
    · have hCE := List.nodup_append.1 hd.1
      have hiC : ¬ lastI C = (i : Int) := fun g => hi (List.mem_append_left _ (List.mem_append_left _ (lastI_mem g)))
      have hiE : ¬ headI E = (i : Int) := fun g => hi (List.mem_append_left _ (List.mem_append_right _ (headI_mem g)))
      have g := h C (E ++ B) (by simp)
      rw [headI_append, if_neg hE] at g ⊢
      refine (g.joined p _ _ (lastI_ge _) i1 (lastI_ge _) (headI_ge _) (.inl ?_) (.inl hiE)).joined p _ _ i1 (headI_ge _) (lastI_ge _) (headI_ge _) (.inl hiC) (.inl (ne_head (fun x hx hy => hAB x (List.mem_append_right _ hx) hy) (.inl hE)))
      rw [lastI_append, if_neg hE]
      exact ne_last (fun x hx hy => hCE.2.2 x hx x hy rfl) (.inr hE)
/-- A chain of others stands. -/
theorem Chain.far {f : Lks} {p q : Nat} {a b : Int} {l : List Nat} (h : Chain f q l) (hqp : q ≠ p) (ha : a = -1 ∨ ∃ x : Nat, a = x ∧ x ∉ l) (hb : b = -1 ∨ ∃ x : Nat, b = x ∧ x ∉ l) : Chain (joinF f p a b) q l := by
  intro A B e
  subst e
  have h1 : -1 ≤ a := by rcases ha with h | ⟨x, h, _⟩ <;> omega
  have h2 : -1 ≤ b := by rcases hb with h | ⟨x, h, _⟩ <;> omega
  refine (h A B rfl).joined p a b h1 h2 (lastI_ge _) (headI_ge _) ?_ ?_
  · rcases ha with g | ⟨x, g, g2⟩
    · exact .inr ⟨g, hqp⟩
    · exact .inl fun e => g2 (List.mem_append_left _ (lastI_mem (e.trans g)))
  · rcases hb with g | ⟨x, g, g2⟩
    · exact .inr ⟨g, hqp⟩
    · exact .inl fun e => g2 (List.mem_append_right _ (headI_mem (e.trans g)))
/-- What is not asked of a chain may turn. -/
theorem Chain.same {f g : Lks} {p : Nat} {l : List Nat} (h : Chain f p l) (h1 : (g p).first = (f p).first) (h2 : (g p).last = (f p).last) (h3 : ∀ x ∈ l, (g x).next = (f x).next ∧ (g x).prev = (f x).prev) : Chain g p l := by
  intro A B e
  subst e
  obtain ⟨k1, k2⟩ := h A B rfl
  constructor
  · rw [← k1]
    unfold nxt
    split
    · exact h1
    · rename_i hh
      rcases lastI_is A with g | ⟨x, g, gx⟩
      · exact absurd g hh
      · rw [g]
        exact (h3 x (List.mem_append_left _ gx)).1
  · rw [← k2]
    unfold prv
    split
    · exact h2
    · rename_i hh
      rcases headI_is B with g | ⟨x, g, gx⟩
      · exact absurd g hh
      · rw [g]
        exact (h3 x (List.mem_append_right _ gx)).2
/-- The links of a tree. -/
structure Linked (f : Lks) (t : T) : Prop where
  par : ∀ i, i < t.length → (f i).par = parAt t i
  chain : ∀ p, p < t.length → Chain f p (kidsAt t p)
theorem linked_new : Linked (fun _ => Lk.none) tNew where
  par := fun i h => by
    have : i = 0 := by simp [tNew] at h; omega
    subst this
    rfl
  chain := fun p h => by
    have : p = 0 := by simp [tNew] at h; omega
    subst this
    intro A B e
    have : kidsAt tNew 0 = [] := rfl
    rw [this] at e
    obtain ⟨rfl, rfl⟩ := List.append_eq_nil_iff.1 e.symm
    exact ⟨rfl, rfl⟩
theorem Linked.snoc {f g : Lks} {t : T} (h : Linked f t) (hG : Good t) (hg : ∀ k, k < t.length → g k = f k) (hn : g t.length = Lk.none) (x : N) : Linked g (t ++ [⟨x, -1, []⟩]) where
  par := fun i hi => by
    unfold parAt
    rw [nodeAt_snoc]
    split
    · rename_i e
      rw [e, hn]
      rfl
    · rename_i e
      have : i < t.length := by simp at hi; omega
      rw [hg i this]
      exact h.par i this
  chain := fun p hp => by
    unfold kidsAt
    rw [nodeAt_snoc]
    split
    · rename_i e
      subst e
      intro A B e
      obtain ⟨rfl, rfl⟩ := List.append_eq_nil_iff.1 e.symm
      exact ⟨by show (g t.length).first = -1; rw [hn]; rfl, by show (g t.length).last = -1; rw [hn]; rfl⟩
    · rename_i e
      have hp2 : p < t.length := by simp at hp; omega
      exact (h.chain p hp2).same (by rw [hg p hp2]) (by rw [hg p hp2]) fun x hx => by rw [hg x (hG.kid p x hx).1]; exact ⟨rfl, rfl⟩
/-- Its text may turn. -/
theorem Linked.text {f : Lks} {t u : T} (h : Linked f t) (hl : u.length = t.length) (hp : ∀ i, parAt u i = parAt t i) (hk : ∀ i, kidsAt u i = kidsAt t i) : Linked f u :=
  ⟨fun i hi => by rw [hp]; exact h.par i (by omega), fun p hq => by rw [hk]; exact h.chain p (by omega)⟩
theorem split_mem {l : List Nat} {x : Nat} (h : x ∈ l) : ∃ A B, l = A ++ x :: B := List.append_of_mem h
theorem erase_split {A B : List Nat} {x : Nat} (hn : (A ++ x :: B).Nodup) : (A ++ x :: B).erase x = A ++ B := by
  have hd := List.nodup_append.1 hn
  rw [List.erase_append_right _ (fun h => hd.2.2 x h x (List.mem_cons_self ..) rfl), List.erase_cons_head]
/-- A node is cut off. -/
theorem Linked.cut {f : Lks} {t u : T} (h : Linked f t) (hG : Good t) {i p : Nat} (e : parAt t i = (p : Nat)) (c : CutE t u i p) :
    Linked (setL (joinF f p (f i).prev (f i).next) i fun x => { x with par := -1, prev := -1, next := -1 }) u := by
  obtain ⟨hp, hm, _⟩ := hG.par_there e
  have hne := hG.far p e
  obtain ⟨A, B, eAB⟩ := split_mem hm
  have hN := hG.nodup p
  have hc := h.chain p hp
  rw [eAB] at hN hc
  have e1 := hc.prev
  have e2 := hc.next
  have hd := List.nodup_append.1 hN
  have hiA : i ∉ A := fun g => hd.2.2 i g i (List.mem_cons_self ..) rfl
  have hiB : i ∉ B := (List.nodup_cons.1 hd.2.1).1
  rw [e1, e2]
  refine ⟨fun k hk => ?_, fun q hq => ?_⟩
  · rw [setL_at, c.par]
    split
    · rfl
    · rw [par_join]
      exact h.par k (by rw [← c.len]; exact hk)
  · rw [c.kids]
    split
    · rename_i eq
      subst eq
      rw [eAB, erase_split hN]
      refine (hc.cut hN).same ?_ ?_ fun x hx => ?_
      · rw [setL_at, if_neg hne]
      · rw [setL_at, if_neg hne]
      · rw [setL_at, if_neg]
        · exact ⟨rfl, rfl⟩
        · intro ex
          subst ex
          exact (List.mem_append.1 hx).elim hiA hiB
    · rename_i eq
      have hq2 : q < t.length := by rw [← c.len]; exact hq
      have hout : ∀ x, x ∈ A ++ i :: B → x ∉ kidsAt t q := fun x hx hy => by
        have g1 := (hG.kid p x (by rw [eAB]; exact hx)).2
        have g2 := (hG.kid q x hy).2
        rw [g1] at g2
        exact eq (by omega)
      have hF := (h.chain q hq2).far (a := lastI A) (b := headI B) eq ((lastI_is A).imp id fun ⟨x, g1, g2⟩ => ⟨x, g1, hout x (List.mem_append_left _ g2)⟩) ((headI_is B).imp id fun ⟨x, g1, g2⟩ => ⟨x, g1, hout x (List.mem_append_right _ (List.mem_cons_of_mem _ g2))⟩)
      refine hF.same ?_ ?_ fun x hx => ?_
      · rw [setL_at]; split <;> rfl
      · rw [setL_at]; split <;> rfl
      · rw [setL_at, if_neg]
        · exact ⟨rfl, rfl⟩
        · intro ex
          subst ex
          exact hout x (by simp) hx
/-- A node that stands nowhere is put in. -/
theorem Linked.put {f : Lks} {t u : T} (h : Linked f t) (hG : Good t) {i p : Nat} {A B : List Nat} (hi : i < t.length) (hp : p < t.length) (hne : p ≠ i) (hn : parAt t i = -1) (eAB : kidsAt t p = A ++ B) (c : PutE t u i p A.length) :
    Linked (joinF (joinF (setL f i fun x => { x with par := p }) p (lastI A) i) p i (headI B)) u := by
  have hout : ∀ q, i ∉ kidsAt t q := fun q g => by
    have := (hG.kid q i g).2
    omega
  refine ⟨fun k hk => ?_, fun q hq => ?_⟩
  · rw [par_join, par_join, setL_at, c.par]
    split
    · rfl
    · exact h.par k (by rw [← c.len]; exact hk)
  · have hq2 : q < t.length := by rw [← c.len]; exact hq
    have hs : Chain (setL f i fun x => { x with par := p }) q (kidsAt t q) := (h.chain q hq2).same (by rw [setL_at]; split <;> rfl) (by rw [setL_at]; split <;> rfl) fun x _ => by rw [setL_at]; split <;> exact ⟨rfl, rfl⟩
    rw [c.kids]
    split
    · rename_i eq
      subst eq
      rw [eAB] at hs ⊢
      rw [List.take_left, List.drop_left]
      exact hs.put (by rw [← eAB]; exact hG.nodup _) (by rw [← eAB]; exact hout _)
    · rename_i eq
      have hoth : ∀ x, x ∈ A ++ B → x ∉ kidsAt t q := fun x hx hy => by
        have g1 := (hG.kid p x (by rw [eAB]; exact hx)).2
        have g2 := (hG.kid q x hy).2
        rw [g1] at g2
        exact eq (by omega)
      refine (hs.far eq ((lastI_is A).imp id fun ⟨x, g1, g2⟩ => ⟨x, g1, hoth x (List.mem_append_left _ g2)⟩) (.inr ⟨i, rfl, hout q⟩)).far eq (.inr ⟨i, rfl, hout q⟩) ((headI_is B).imp id fun ⟨x, g1, g2⟩ => ⟨x, g1, hoth x (List.mem_append_right _ g2)⟩)
end Go.Proofs.Ytlgmjnnfndedbaa.Dom
