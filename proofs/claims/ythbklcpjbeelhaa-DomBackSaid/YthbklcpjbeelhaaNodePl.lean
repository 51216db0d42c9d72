/- Plain Lean: nodes that stand in one another; how much they weigh; when they are alike; how they are printed. Nothing of a program stands here. -/
import Derived.Test.YthbklcpjbeelhaaWld
namespace Go.Proofs.Ythbklcpjbeelhaa.Dom
open Go.Lib
set_option maxRecDepth 100000
set_option linter.unusedVariables false

/-- A node, all fields. -/
inductive N where
  | mk (kind space : Nat) (name : List UInt8) (atts : List (List UInt8 × List UInt8)) (text : List UInt8) (kids : List N)
def N.kind : N → Nat | .mk k _ _ _ _ _ => k
def N.space : N → Nat | .mk _ s _ _ _ _ => s
def N.name : N → List UInt8 | .mk _ _ n _ _ _ => n
def N.atts : N → List (List UInt8 × List UInt8) | .mk _ _ _ a _ _ => a
def N.text : N → List UInt8 | .mk _ _ _ _ t _ => t
def N.kids : N → List N | .mk _ _ _ _ _ l => l
/-- How deep they stand in one another is at most d. -/
def depthLe : Nat → List N → Prop
  | 0, ns => ns = []
  | d + 1, ns => ∀ x ∈ ns, depthLe d x.kids
theorem depth_mono : ∀ {d e : Nat} {ns : List N}, d ≤ e → depthLe d ns → depthLe e ns
  | 0, 0, ns, _, h => h
  | 0, e + 1, ns, _, h => by
    obtain rfl : ns = [] := h
    intro x hx
    cases hx
  | d + 1, 0, ns, h, _ => by omega
  | d + 1, e + 1, ns, h, hd => fun x hx => depth_mono (by omega) (hd x hx)

/-! ### Weights -/
def wtA (most : Nat) : Nat → List (List UInt8 × List UInt8) → Nat
  | w, [] => w
  | w, x :: r => if w ≤ most then wtA most (w + (1 + x.1.length / 8 + x.2.length / 8)) r else w
/-- Of lists that stand at most d deep in one another. -/
def wtL (most : Nat) : Nat → Nat → List N → Nat
  | 0, w, _ => w
  | d + 1, w, ns => ns.foldl (fun w x => if w ≤ most then wtL most d (wtA most (w + (1 + x.text.length / 8 + x.name.length / 8)) x.atts) x.kids else w) w
/-- One node's turn. -/
def stepN (most d w : Nat) (x : N) : Nat := if w ≤ most then wtL most d (wtA most (w + (1 + x.text.length / 8 + x.name.length / 8)) x.atts) x.kids else w
theorem wtL_eq (most d w : Nat) (ns : List N) : wtL most (d + 1) w ns = ns.foldl (stepN most d) w := rfl
theorem step_over {most d w : Nat} (h : ¬ w ≤ most) : ∀ ns : List N, ns.foldl (stepN most d) w = w
  | [] => rfl
  | x :: r => by
    rw [List.foldl_cons, show stepN most d w x = w by unfold stepN; rw [if_neg h]]
    exact step_over h r
theorem wtA_over {most w : Nat} (h : ¬ w ≤ most) (l : List (List UInt8 × List UInt8)) : wtA most w l = w := by
  cases l with
  | nil => rfl
  | cons x r => unfold wtA; rw [if_neg h]
/-- No text is longer than M. -/
def okL (M : Nat) : Nat → List N → Prop
  | 0, _ => True
  | d + 1, ns => ∀ x ∈ ns, x.text.length ≤ M ∧ x.name.length ≤ M ∧ (∀ a ∈ x.atts, a.1.length ≤ M ∧ a.2.length ≤ M) ∧ x.atts.length ≤ M ∧ x.kids.length ≤ M ∧ okL M d x.kids
theorem wtA_ge (most : Nat) : ∀ (l : List (List UInt8 × List UInt8)) (w : Nat), w ≤ wtA most w l
  | [], w => Nat.le_refl _
  | x :: r, w => by
    unfold wtA
    split
    · exact Nat.le_trans (by omega) (wtA_ge most r _)
    · exact Nat.le_refl _
theorem foldl_ge {α : Type} (f : Nat → α → Nat) (hf : ∀ w x, w ≤ f w x) : ∀ (l : List α) (w : Nat), w ≤ l.foldl f w
  | [], w => Nat.le_refl _
  | x :: r, w => Nat.le_trans (hf w x) (foldl_ge f hf r _)
theorem wtL_ge (most : Nat) : ∀ (d w : Nat) (ns : List N), w ≤ wtL most d w ns
  | 0, w, ns => Nat.le_refl _
  | d + 1, w, ns => by
    unfold wtL
    refine foldl_ge _ (fun w x => ?_) ns w
    split
    · exact Nat.le_trans (Nat.le_trans (by omega) (wtA_ge most x.atts _)) (wtL_ge most d _ x.kids)
    · exact Nat.le_refl _
def sumA : List (List UInt8 × List UInt8) → Nat
  | [] => 0
  | x :: r => (1 + x.1.length / 8 + x.2.length / 8) + sumA r
def sumL (c : N → Nat) : List N → Nat
  | [] => 0
  | x :: r => c x + sumL c r
/-- What nodes weigh, all of it. -/
def sumW : Nat → List N → Nat
  | 0, _ => 0
  | d + 1, ns => sumL (fun x => (1 + x.text.length / 8 + x.name.length / 8) + sumA x.atts + sumW d x.kids) ns
theorem wtA_sum (most : Nat) : ∀ (l : List (List UInt8 × List UInt8)) (w : Nat), wtA most w l ≤ most → wtA most w l = w + sumA l
  | [], w, _ => rfl
  | x :: r, w, h => by
    unfold wtA at h ⊢
    by_cases hw : w ≤ most
    · rw [if_pos hw] at h ⊢
      rw [wtA_sum most r _ h]
      show w + (1 + x.1.length / 8 + x.2.length / 8) + sumA r = w + ((1 + x.1.length / 8 + x.2.length / 8) + sumA r)
      omega
    · rw [if_neg hw] at h
      omega
theorem foldl_sum (f : Nat → N → Nat) (c : N → Nat) (most : Nat) (hge : ∀ w x, w ≤ f w x) (hf : ∀ w x, f w x ≤ most → f w x = w + c x) : ∀ (l : List N) (w : Nat), l.foldl f w ≤ most → l.foldl f w = w + sumL c l
  | [], w, _ => rfl
  | x :: r, w, h => by
    have h1 : f w x ≤ most := Nat.le_trans (foldl_ge f hge r (f w x)) h
    rw [List.foldl_cons, foldl_sum f c most hge hf r _ h, hf w x h1]
    show w + c x + sumL c r = w + (c x + sumL c r)
    omega
theorem wtL_sum (most : Nat) : ∀ (d w : Nat) (ns : List N), wtL most d w ns ≤ most → wtL most d w ns = w + sumW d ns
  | 0, w, ns, _ => rfl
  | d + 1, w, ns, h => by
    unfold wtL at h ⊢
    refine foldl_sum _ _ most (fun w x => ?_) (fun w x hx => ?_) ns w h
    · split
      · exact Nat.le_trans (Nat.le_trans (by omega) (wtA_ge most x.atts _)) (wtL_ge most d _ x.kids)
      · exact Nat.le_refl _
    · by_cases hw : w ≤ most
      · rw [if_pos hw] at hx ⊢
        have h1 := Nat.le_trans (wtL_ge most d (wtA most (w + (1 + x.text.length / 8 + x.name.length / 8)) x.atts) x.kids) hx
        rw [wtL_sum most d _ _ hx, wtA_sum most _ _ h1]
        omega
      · rw [if_neg hw] at hx
        omega
theorem sumL_mem (c : N → Nat) {x : N} : ∀ {l : List N}, x ∈ l → c x ≤ sumL c l
  | y :: r, h => by
    rcases List.mem_cons.1 h with rfl | h
    · exact Nat.le_add_right _ _
    · exact Nat.le_trans (sumL_mem c h) (Nat.le_add_left _ _)
theorem sumA_mem {x : List UInt8 × List UInt8} : ∀ {l : List (List UInt8 × List UInt8)}, x ∈ l → 1 + x.1.length / 8 + x.2.length / 8 ≤ sumA l
  | y :: r, h => by
    rcases List.mem_cons.1 h with rfl | h
    · exact Nat.le_add_right _ _
    · exact Nat.le_trans (sumA_mem h) (Nat.le_add_left _ _)
theorem sumL_len (c : N → Nat) (hc : ∀ x, 1 ≤ c x) : ∀ l : List N, l.length ≤ sumL c l
  | [] => Nat.le_refl _
  | x :: r => by
    have h1 := hc x
    have h2 := sumL_len c hc r
    show r.length + 1 ≤ c x + sumL c r
    omega
theorem sumA_len : ∀ l : List (List UInt8 × List UInt8), l.length ≤ sumA l
  | [] => Nat.le_refl _
  | x :: r => by
    have h2 := sumA_len r
    show r.length + 1 ≤ _ + sumA r
    omega
/-- What a weight says of a list: how long it is, and of each in it. -/
theorem sumW_len (d : Nat) (ns : List N) : ns.length ≤ sumW (d + 1) ns := sumL_len _ (fun x => by omega) ns
theorem sumW_mem {d : Nat} {ns : List N} {x : N} (h : x ∈ ns) : (1 + x.text.length / 8 + x.name.length / 8) + sumA x.atts + sumW d x.kids ≤ sumW (d + 1) ns := sumL_mem (fun x => (1 + x.text.length / 8 + x.name.length / 8) + sumA x.atts + sumW d x.kids) h

/-! ### Alike -/
def oneB (rec : List N → List N → Bool) (x y : N) : Bool :=
  if x.kind ≠ y.kind then false
  else if x.kind = 2 ∨ x.kind = 3 then decide (x.text = y.text)
  else if x.kind = 1 then decide (x.space = y.space ∧ x.name = y.name ∧ x.atts = y.atts) && rec x.kids y.kids
  else true
def allB (f : N → N → Bool) : List N → List N → Bool
  | [], [] => true
  | x :: r, y :: t => f x y && allB f r t
  | _, _ => false
def sameB : Nat → List N → List N → Bool
  | 0, a, b => decide (a.length = b.length)
  | d + 1, a, b => allB (oneB (sameB d)) a b
theorem allB_refl (f : N → N → Bool) (hf : ∀ x, f x x = true) : ∀ l, allB f l l = true
  | [] => rfl
  | x :: r => by
    unfold allB
    rw [hf x, allB_refl f hf r]
    rfl
theorem sameB_refl : ∀ (d : Nat) (l : List N), sameB d l l = true
  | 0, l => by unfold sameB; exact decide_eq_true rfl
  | d + 1, l => by
    unfold sameB
    refine allB_refl _ (fun x => ?_) l
    unfold oneB
    rw [if_neg (fun h => h rfl)]
    split
    · exact decide_eq_true rfl
    split
    · rw [sameB_refl d, decide_eq_true ⟨rfl, rfl, rfl⟩]
      rfl
    · rfl
theorem allB_len {f : N → N → Bool} : ∀ {a b : List N}, allB f a b = true → a.length = b.length
  | [], [], _ => rfl
  | x :: r, y :: t, h => by
    unfold allB at h
    rw [List.length_cons, List.length_cons, allB_len (Bool.and_eq_true_iff.1 h).2]
  | [], y :: t, h => by cases h
  | x :: r, [], h => by cases h

/-! ### Printed -/
def spaceP (s : Nat) : List UInt8 := if s = 1 then [115, 118, 103, 32] else if s = 2 then [109, 97, 116, 104, 32] else []
def attP (F : List UInt8) (p : List UInt8 × List UInt8) : List UInt8 := F ++ [32, 32] ++ p.1 ++ [61, 34] ++ p.2 ++ [34, 10]
def attsP (F : List UInt8) (l : List (List UInt8 × List UInt8)) : List UInt8 := l.flatMap (attP F)
def headP (F : List UInt8) (x : N) : List UInt8 := F ++ [60] ++ spaceP x.space ++ x.name ++ [62, 10]
def lineP (rec : List N → List UInt8 → List UInt8) (F : List UInt8) (x : N) : List UInt8 :=
  if x.kind = 2 then F ++ [34] ++ x.text ++ [34, 10]
  else if x.kind = 3 then F ++ [60, 33, 45, 45, 32] ++ x.text ++ [32, 45, 45, 62, 10]
  else if x.kind = 1 then headP F x ++ attsP F x.atts ++ rec x.kids (F ++ [32, 32])
  else []
def linesP : Nat → List N → List UInt8 → List UInt8
  | 0, _, _ => []
  | d + 1, ns, F => ns.flatMap (lineP (linesP d) F)
theorem mul8 (u C : Nat) (h : 8 ≤ C) : 8 * u ≤ u * C := by
  rw [Nat.mul_comm 8 u]
  exact Nat.mul_le_mul_left u h
theorem space_len (s : Nat) : (spaceP s).length ≤ 5 := by
  unfold spaceP
  split
  · decide
  split <;> decide
theorem attsP_len (F : List UInt8) (C : Nat) (hC : F.length + 40 ≤ C) : ∀ l : List (List UInt8 × List UInt8), (attsP F l).length ≤ sumA l * C
  | [] => Nat.zero_le _
  | p :: r => by
    have h1 := attsP_len F C hC r
    have h2 := mul8 (p.1.length / 8) C (by omega)
    have h3 := mul8 (p.2.length / 8) C (by omega)
    show (attP F p ++ attsP F r).length ≤ ((1 + p.1.length / 8 + p.2.length / 8) + sumA r) * C
    rw [List.length_append, Nat.add_mul, Nat.add_mul, Nat.add_mul, Nat.one_mul]
    have h4 : (attP F p).length = F.length + 2 + p.1.length + 2 + p.2.length + 2 := by simp [attP]; omega
    omega
theorem linesP_len : ∀ (d : Nat) (ns : List N) (F : List UInt8) (M : Nat), sumW d ns ≤ M → (linesP d ns F).length ≤ sumW d ns * (F.length + 2 * M + 40)
  | 0, ns, F, M, _ => Nat.zero_le _
  | d + 1, ns, F, M, h => by
    have key : ∀ l : List N, (∀ x ∈ l, x ∈ ns) → (l.flatMap (lineP (linesP d) F)).length ≤ sumL (fun x => (1 + x.text.length / 8 + x.name.length / 8) + sumA x.atts + sumW d x.kids) l * (F.length + 2 * M + 40) := by
      intro l
      induction l with
      | nil => intro _; exact Nat.zero_le _
      | cons x r ih =>
        intro hm
        have h1 := ih fun y hy => hm y (by simp [hy])
        have hx := sumW_mem (d := d) (hm x (by simp))
        rw [List.flatMap_cons, List.length_append]
        show _ ≤ ((1 + x.text.length / 8 + x.name.length / 8) + sumA x.atts + sumW d x.kids + sumL (fun x => (1 + x.text.length / 8 + x.name.length / 8) + sumA x.atts + sumW d x.kids) r) * (F.length + 2 * M + 40)
        rw [Nat.add_mul]
        refine Nat.add_le_add ?_ h1
        obtain ⟨C, hC⟩ : ∃ C, F.length + 2 * M + 40 = C := ⟨_, rfl⟩
        rw [hC, Nat.add_mul, Nat.add_mul, Nat.add_mul, Nat.add_mul, Nat.one_mul]
        have h2 := mul8 (x.text.length / 8) C (by omega)
        have h3 := mul8 (x.name.length / 8) C (by omega)
        have h4 := attsP_len F C (by omega) x.atts
        have h5 := linesP_len d x.kids (F ++ [32, 32]) (M - 1) (by omega)
        rw [List.length_append, show F.length + ([32, 32] : List UInt8).length + 2 * (M - 1) + 40 = C by simp only [List.length_cons, List.length_nil]; omega] at h5
        have h6 := space_len x.space
        unfold lineP
        split
        · simp only [List.length_append, List.length_cons, List.length_nil]; omega
        split
        · simp only [List.length_append, List.length_cons, List.length_nil]; omega
        split
        · have h7 : (headP F x).length = F.length + 1 + (spaceP x.space).length + x.name.length + 2 := by simp [headP]; omega
          rw [List.length_append, List.length_append]
          omega
        · exact Nat.zero_le _
    exact key ns fun x hx => hx
end Go.Proofs.Ythbklcpjbeelhaa.Dom
