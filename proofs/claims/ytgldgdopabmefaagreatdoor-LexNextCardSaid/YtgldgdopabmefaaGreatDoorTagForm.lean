/- Plain Lean: the form of what a tag is read as; and that the size of letters makes no difference. Nothing of a program stands here. -/
import Derived.Test.YtgldgdopabmefaaGreatDoorTagPl
namespace Go.Proofs.YtgldgdopabmefaaGreatDoor.Tag
open Go.Lib
set_option maxRecDepth 100000
set_option linter.unusedVariables false

/-! ### The form of names -/
def NameOk (n : List UInt8) : Prop := n ≠ [] ∧ lowL n = n ∧ ∀ c ∈ n, spB c = false ∧ c.toNat ≠ 62 ∧ c.toNat ≠ 47
theorem low_keeps (c : UInt8) : spB (lowC c) = spB c ∧ ((lowC c).toNat = 62 ↔ c.toNat = 62) ∧ ((lowC c).toNat = 47 ↔ c.toNat = 47) ∧ ((lowC c).toNat = 61 ↔ c.toNat = 61) ∧ ((lowC c).toNat = 34 ↔ c.toNat = 34) ∧ ((lowC c).toNat = 39 ↔ c.toNat = 39) ∧ ((lowC c).toNat = 60 ↔ c.toNat = 60) ∧ letterN (lowC c).toNat = letterN c.toNat := by
  have h : ∀ n : Fin 256, spB (lowC (UInt8.ofNat n.val)) = spB (UInt8.ofNat n.val) ∧ ((lowC (UInt8.ofNat n.val)).toNat = 62 ↔ (UInt8.ofNat n.val).toNat = 62) ∧ ((lowC (UInt8.ofNat n.val)).toNat = 47 ↔ (UInt8.ofNat n.val).toNat = 47) ∧ ((lowC (UInt8.ofNat n.val)).toNat = 61 ↔ (UInt8.ofNat n.val).toNat = 61) ∧ ((lowC (UInt8.ofNat n.val)).toNat = 34 ↔ (UInt8.ofNat n.val).toNat = 34) ∧ ((lowC (UInt8.ofNat n.val)).toNat = 39 ↔ (UInt8.ofNat n.val).toNat = 39) ∧ ((lowC (UInt8.ofNat n.val)).toNat = 60 ↔ (UInt8.ofNat n.val).toNat = 60) ∧ letterN (lowC (UInt8.ofNat n.val)).toNat = letterN (UInt8.ofNat n.val).toNat := by decide +kernel
  have := h ⟨c.toNat, c.toNat_lt⟩
  simpa using this
theorem wd_parts {b : Bool} {c : UInt8} (h : wdB b c = true) : spB c = false ∧ c.toNat ≠ 62 ∧ c.toNat ≠ 47 := by
  unfold wdB at h
  simp only [Bool.and_eq_true, Bool.not_eq_true', bne_iff_ne] at h
  exact ⟨h.1, h.2.2.1, h.2.1⟩
theorem cut_mem {l : List UInt8} {a e : Nat} {x : UInt8} (h : x ∈ cutP l a e) : ∃ j, a ≤ j ∧ j < e ∧ l[j]? = some x := by
  unfold cutP at h
  obtain ⟨j, hj⟩ := List.mem_iff_getElem?.1 h
  have hlt : j < e - a := by
    have := (List.getElem?_eq_some_iff.1 hj).1
    rw [List.length_take] at this
    omega
  rw [List.getElem?_take_of_lt hlt, List.getElem?_drop] at hj
  exact ⟨a + j, by omega, by omega, hj⟩
theorem name_ok {l : List UInt8} {a e : Nat} (hae : a < e) (hel : e ≤ l.length) (h : ∀ j x, a ≤ j → j < e → l[j]? = some x → spB x = false ∧ x.toNat ≠ 62 ∧ x.toNat ≠ 47) : NameOk (lowL (cutP l a e)) := by
  refine ⟨?_, lowL_low _, fun c hc => ?_⟩
  · intro e0
    have h1 : (lowL (cutP l a e)).length = 0 := by rw [e0]; rfl
    rw [lowL_len] at h1
    unfold cutP at h1
    rw [List.length_take, List.length_drop] at h1
    omega
  · unfold lowL at hc
    obtain ⟨x, hx, rfl⟩ := List.mem_map.1 hc
    obtain ⟨j, j1, j2, hj⟩ := cut_mem hx
    obtain ⟨h1, h2, h3⟩ := h j x j1 j2 hj
    have hk := low_keeps x
    exact ⟨by rw [hk.1]; exact h1, fun e => h2 (hk.2.1.1 e), fun e => h3 (hk.2.2.1.1 e)⟩
theorem round_facts (l : List UInt8) (i : Nat) : (∀ a s, round l i = .ends a s → ∃ c, l[a]? = some c ∧ c.toNat = 62) ∧ (∀ a n v, round l i = .on a n v → NameOk n) := by
  unfold round
  simp only
  split
  · exact ⟨fun a s h => (by cases h), fun a n v h => (by cases h)⟩
  · rename_i c hc
    have hsp := skip_at (p := spB) (l := l) (i := i) hc
    have hlt : skip spB l i < l.length := (List.getElem?_eq_some_iff.1 hc).1
    split
    · rename_i h62
      exact ⟨fun a s h => by cases h; exact ⟨c, hc, h62⟩, fun a n v h => (by cases h)⟩
    · rename_i n62
      split
      · split
        · rename_i d hd
          split
          · rename_i h62
            exact ⟨fun a s h => by cases h; exact ⟨d, hd, h62⟩, fun a n v h => (by cases h)⟩
          · exact ⟨fun a s h => (by cases h), fun a n v h => (by cases h)⟩
        · exact ⟨fun a s h => (by cases h), fun a n v h => (by cases h)⟩
      · rename_i n47
        have hn : NameOk (lowL (cutP l (skip spB l i) (skip (wdB true) l (skip spB l i + 1)))) := by
          have e1 := skip_ge (wdB true) l (skip spB l i + 1)
          have e2 := skip_le (wdB true) l (skip spB l i + 1) (by omega)
          refine name_ok (by omega) e2 fun j x h1 h2 hx => ?_
          rcases Nat.lt_or_ge (skip spB l i) j with h3 | h3
          · exact wd_parts (skip_all (p := wdB true) (by omega) h2 hx)
          · obtain rfl : j = skip spB l i := by omega
            rw [hc] at hx
            cases hx
            exact ⟨hsp, n62, n47⟩
        split
        · split
          · split
            · exact ⟨fun a s h => (by cases h), fun a n v h => by cases h; exact hn⟩
            · exact ⟨fun a s h => (by cases h), fun a n v h => (by cases h)⟩
          · exact ⟨fun a s h => (by cases h), fun a n v h => by cases h; exact hn⟩
        · exact ⟨fun a s h => (by cases h), fun a n v h => by cases h; exact hn⟩
def Good (atts : List At) : Prop := (∀ z ∈ atts, NameOk z.1) ∧ (atts.map (·.1)).Nodup
theorem add_good {atts : List At} {n v : List UInt8} (h : Good atts) (hn : NameOk n) : Good (addA atts n v) := by
  unfold addA
  split
  · exact h
  · rename_i hany
    refine ⟨fun z hz => ?_, ?_⟩
    · rcases List.mem_append.1 hz with h1 | h1
      · exact h.1 z h1
      · simp at h1
        subst h1
        exact hn
    · rw [List.map_append, List.nodup_append]
      refine ⟨h.2, by simp, fun a ha b hb e => ?_⟩
      simp at hb
      subst hb
      subst e
      apply hany
      obtain ⟨z, hz, hz2⟩ := List.mem_map.1 ha
      exact List.any_eq_true.2 ⟨z, hz, by simpa using hz2⟩
theorem run_good {l : List UInt8} : ∀ (f i : Nat) (atts A : List At) (a : Nat) (s : Bool), run l f i atts = some (A, a, s) → i ≤ l.length → Good atts → Good A ∧ i ≤ a ∧ ∃ c, l[a]? = some c ∧ c.toNat = 62
  | 0, i, atts, A, a, s, h, hi, hg => by cases h
  | f + 1, i, atts, A, a, s, h, hi, hg => by
    obtain ⟨g1, g2, g3⟩ := round_grows l i hi
    obtain ⟨r1, r2⟩ := round_facts l i
    unfold run at h
    cases hr : round l i with
    | no => rw [hr] at h; cases h
    | ends a' s' =>
      rw [hr] at h
      cases h
      exact ⟨hg, (g3 _ _ hr).1, r1 _ _ hr⟩
    | past a' =>
      rw [hr] at h
      obtain ⟨k1, k2, k3⟩ := run_good f a' atts A a s h (g1 _ hr).2 hg
      exact ⟨k1, by have := (g1 _ hr).1; omega, k3⟩
    | on a' n v =>
      rw [hr] at h
      obtain ⟨k1, k2, k3⟩ := run_good f a' _ A a s h (g2 _ _ _ hr).2 (add_good hg (r2 _ _ _ hr))
      exact ⟨k1, by have := (g2 _ _ _ hr).1; omega, k3⟩
/-- What a tag is read as has this form. -/
theorem read_form {l : List UInt8} {i m : Nat} {t : Tok} (hb : begB l i = true) (h : readP l i = some (t, m)) :
    i < m ∧ m ≤ l.length ∧ U8.B l (m - 1) = 62 ∧ U8.B l i = 60 ∧ t.name ≠ [] ∧ lowL t.name = t.name ∧ Good t.atts := by
  obtain ⟨h1, h2, h3, h4⟩ := beg_lt hb
  have hf : i < fromP l i := by unfold fromP; split <;> omega
  have n1 := skip_ge (wdB false) l (fromP l i)
  have n2 := skip_le (wdB false) l (fromP l i) (by omega)
  have hne : fromP l i < nameEnd l i := by
    unfold nameEnd
    have hc := List.getElem?_eq_getElem h3
    have hB : U8.B l (fromP l i) = (l[fromP l i]).toNat := U8.B_eq hc
    have hw : wdB false (l[fromP l i]) = true := by
      rw [hB] at h4
      have : ∀ n : Fin 256, letterN (UInt8.ofNat n.val).toNat = true → wdB false (UInt8.ofNat n.val) = true := by decide +kernel
      have h5 := this ⟨(l[fromP l i]).toNat, (l[fromP l i]).toNat_lt⟩
      simp at h5
      exact h5 h4
    rw [skip_go hc hw]
    have := skip_ge (wdB false) l (fromP l i + 1)
    omega
  unfold readP at h
  split at h
  · cases h
  · rename_i atts a s hr
    cases h
    obtain ⟨g1, g2, c, g3, g4⟩ := run_good _ _ _ _ _ _ hr (by unfold nameEnd; exact n2) ⟨fun z hz => (by cases hz), by simp⟩
    have hal : a < l.length := (List.getElem?_eq_some_iff.1 g3).1
    have hok : NameOk (lowL (cutP l (fromP l i) (nameEnd l i))) := name_ok hne (by unfold nameEnd; exact n2) fun j x j1 j2 hx => wd_parts (skip_all (p := wdB false) j1 (by unfold nameEnd at j2; exact j2) hx)
    refine ⟨by omega, by omega, ?_, h2, hok.1, hok.2.1, ?_⟩
    · show U8.B l (a + 1 - 1) = 62
      rw [Nat.add_sub_cancel, U8.B_eq g3, g4]
    · show Good (if isEnd l i = true then [] else atts)
      split
      · exact ⟨fun z hz => (by cases hz), by simp⟩
      · exact g1

theorem cut_short (l : List UInt8) (a e : Nat) : (lowL (cutP l a e)).length ≤ l.length := by
  rw [lowL_len]
  unfold cutP
  rw [List.length_take, List.length_drop]
  omega
theorem round_short {l : List UInt8} {i a : Nat} {n v : List UInt8} (h : round l i = .on a n v) : n.length ≤ l.length := by
  unfold round at h
  simp only at h
  split at h
  · cases h
  · split at h
    · cases h
    · split at h
      · split at h
        · split at h <;> cases h
        · cases h
      · split at h
        · split at h
          · split at h
            · cases h; exact cut_short _ _ _
            · cases h
          · cases h; exact cut_short _ _ _
        · cases h; exact cut_short _ _ _
theorem run_short {l : List UInt8} : ∀ (f i : Nat) (atts A : List At) (a : Nat) (s : Bool), run l f i atts = some (A, a, s) → (∀ z ∈ atts, z.1.length ≤ l.length) → ∀ z ∈ A, z.1.length ≤ l.length
  | 0, i, atts, A, a, s, h, hg => by cases h
  | f + 1, i, atts, A, a, s, h, hg => by
    unfold run at h
    cases hr : round l i with
    | no => rw [hr] at h; cases h
    | ends a' s' => rw [hr] at h; cases h; exact hg
    | past a' => rw [hr] at h; exact run_short f a' atts A a s h hg
    | on a' n v =>
      rw [hr] at h
      refine run_short f a' _ A a s h fun z hz => ?_
      unfold addA at hz
      split at hz
      · exact hg z hz
      · rcases List.mem_append.1 hz with h1 | h1
        · exact hg z h1
        · simp at h1
          subst h1
          exact round_short hr
theorem read_short {l : List UInt8} {i m : Nat} {t : Tok} (h : readP l i = some (t, m)) : t.name.length ≤ l.length ∧ ∀ z ∈ t.atts, z.1.length ≤ l.length := by
  unfold readP at h
  split at h
  · cases h
  · rename_i atts a s hr
    cases h
    refine ⟨cut_short _ _ _, fun z hz => ?_⟩
    have hz2 : z ∈ (if isEnd l i = true then [] else atts) := hz
    split at hz2
    · cases hz2
    · exact run_short _ _ _ _ _ _ hr (fun z hz => (by cases hz)) z hz2

/-! ### The size of letters -/
theorem low_get (l : List UInt8) (i : Nat) : (lowL l)[i]? = (l[i]?).map lowC := by unfold lowL; simp
theorem skip_low {p : UInt8 → Bool} (hp : ∀ c, p (lowC c) = p c) (l : List UInt8) (i : Nat) : skip p (lowL l) i = skip p l i := by
  unfold skip lowL
  rw [← List.map_drop]
  congr 1
  induction l.drop i with
  | nil => rfl
  | cons a t ih =>
    rw [List.map_cons, List.takeWhile_cons, List.takeWhile_cons, hp a]
    split
    · rw [List.length_cons, List.length_cons, ih]
    · rfl
theorem wd_low (b : Bool) (c : UInt8) : wdB b (lowC c) = wdB b c := by
  have : ∀ (b : Bool) (n : Fin 256), wdB b (lowC (UInt8.ofNat n.val)) = wdB b (UInt8.ofNat n.val) := by decide +kernel
  have h := this b ⟨c.toNat, c.toNat_lt⟩
  simpa using h
theorem vl_low (c : UInt8) : vlB (lowC c) = vlB c := by
  have : ∀ n : Fin 256, vlB (lowC (UInt8.ofNat n.val)) = vlB (UInt8.ofNat n.val) := by decide +kernel
  have h := this ⟨c.toNat, c.toNat_lt⟩
  simpa using h
theorem qt_low {q : UInt8} (hq : q.toNat = 34 ∨ q.toNat = 39) (c : UInt8) : qtB q (lowC c) = qtB q c := by
  have h1 : ∀ n : Fin 256, qtB 34 (lowC (UInt8.ofNat n.val)) = qtB 34 (UInt8.ofNat n.val) := by decide +kernel
  have h2 : ∀ n : Fin 256, qtB 39 (lowC (UInt8.ofNat n.val)) = qtB 39 (UInt8.ofNat n.val) := by decide +kernel
  rcases hq with h | h
  · obtain rfl : q = 34 := UInt8.toNat_inj.1 h
    have h := h1 ⟨c.toNat, c.toNat_lt⟩
    simpa using h
  · obtain rfl : q = 39 := UInt8.toNat_inj.1 h
    have h := h2 ⟨c.toNat, c.toNat_lt⟩
    simpa using h
theorem quote_low {q : UInt8} (hq : q.toNat = 34 ∨ q.toNat = 39) : lowC q = q := by
  unfold lowC
  rw [if_neg (by omega)]
theorem cut_low (l : List UInt8) (a e : Nat) : cutP (lowL l) a e = lowL (cutP l a e) := by unfold cutP lowL; rw [← List.map_drop, ← List.map_take]
theorem val_low (l : List UInt8) (i : Nat) : (valP (lowL l) i).2 = (valP l i).2 := by
  unfold valP
  simp only [skip_low (fun c => (low_keeps c).1), low_get]
  cases hc : l[skip spB l i]? with
  | none => rfl
  | some c =>
    have hk := low_keeps c
    simp only [Option.map_some]
    by_cases h62 : c.toNat = 62
    · rw [if_pos h62, if_pos (hk.2.1.2 h62)]
    · rw [if_neg h62, if_neg (fun e => h62 (hk.2.1.1 e))]
      by_cases hq : c.toNat = 34 ∨ c.toNat = 39
      · rw [if_pos hq, if_pos (by rw [quote_low hq]; exact hq), quote_low hq, skip_low (qt_low hq), lowL_len]
        split <;> rfl
      · rw [if_neg hq, if_neg (fun e => hq (e.imp hk.2.2.2.2.1.1 hk.2.2.2.2.2.1.1)), skip_low vl_low]
/-- What two rounds come to is alike but for the value. -/
def alike : Next → Next → Prop
  | .no, .no => True
  | .ends a s, .ends b t => a = b ∧ s = t
  | .past a, .past b => a = b
  | .on a n _, .on b m _ => a = b ∧ n = m
  | _, _ => False
theorem round_low (l : List UInt8) (i : Nat) : alike (round (lowL l) i) (round l i) := by
  have hsp : ∀ c, spB (lowC c) = spB c := fun c => (low_keeps c).1
  unfold round
  simp only [skip_low hsp, skip_low (wd_low true), low_get, cut_low, lowL_low]
  cases hc : l[skip spB l i]? with
  | none => trivial
  | some c =>
    have hk := low_keeps c
    simp only [Option.map_some]
    by_cases h62 : c.toNat = 62
    · rw [if_pos h62, if_pos (hk.2.1.2 h62)]; exact ⟨rfl, rfl⟩
    · rw [if_neg h62, if_neg (fun e => h62 (hk.2.1.1 e))]
      by_cases h47 : c.toNat = 47
      · rw [if_pos h47, if_pos (hk.2.2.1.2 h47)]
        cases hd : l[skip spB l i + 1]? with
        | none => exact rfl
        | some d =>
          have hk2 := low_keeps d
          simp only [Option.map_some]
          by_cases hd62 : d.toNat = 62
          · rw [if_pos hd62, if_pos (hk2.2.1.2 hd62)]; exact ⟨rfl, rfl⟩
          · rw [if_neg hd62, if_neg (fun e => hd62 (hk2.2.1.1 e))]; exact rfl
      · rw [if_neg h47, if_neg (fun e => h47 (hk.2.2.1.1 e))]
        cases hd : l[skip spB l (skip (wdB true) l (skip spB l i + 1))]? with
        | none => exact ⟨rfl, rfl⟩
        | some d =>
          have hk2 := low_keeps d
          simp only [Option.map_some, val_low]
          by_cases hd61 : d.toNat = 61
          · rw [if_pos hd61, if_pos (hk2.2.2.2.1.2 hd61)]
            split
            · exact ⟨rfl, rfl⟩
            · trivial
          · rw [if_neg hd61, if_neg (fun e => hd61 (hk2.2.2.2.1.1 e))]; exact ⟨rfl, rfl⟩
def alikeR : Option (List At × Nat × Bool) → Option (List At × Nat × Bool) → Prop
  | none, none => True
  | some (A, a, s), some (B, b, t) => A.map (·.1) = B.map (·.1) ∧ a = b ∧ s = t
  | _, _ => False
theorem any_names {A B : List At} (h : A.map (·.1) = B.map (·.1)) (n : List UInt8) : A.any (fun z => z.1 == n) = B.any (fun z => z.1 == n) := by
  have h1 : ∀ C : List At, C.any (fun z => z.1 == n) = (C.map (·.1)).any (fun x => x == n) := fun C => by rw [List.any_map]; rfl
  rw [h1, h1, h]
theorem run_low (l : List UInt8) : ∀ (f i : Nat) (A B : List At), A.map (·.1) = B.map (·.1) → alikeR (run (lowL l) f i A) (run l f i B)
  | 0, i, A, B, h => trivial
  | f + 1, i, A, B, h => by
    have hr := round_low l i
    unfold run
    cases h1 : round (lowL l) i with
    | no =>
      rw [h1] at hr
      cases h2 : round l i with
      | no => trivial
      | ends b t => rw [h2] at hr; exact hr.elim
      | past b => rw [h2] at hr; exact hr.elim
      | on b m v => rw [h2] at hr; exact hr.elim
    | ends a s =>
      rw [h1] at hr
      cases h2 : round l i with
      | no => rw [h2] at hr; exact hr.elim
      | ends b t => rw [h2] at hr; exact ⟨h, hr⟩
      | past b => rw [h2] at hr; exact hr.elim
      | on b m v => rw [h2] at hr; exact hr.elim
    | past a =>
      rw [h1] at hr
      cases h2 : round l i with
      | no => rw [h2] at hr; exact hr.elim
      | ends b t => rw [h2] at hr; exact hr.elim
      | past b =>
        rw [h2] at hr
        obtain rfl : a = b := hr
        exact run_low l f a A B h
      | on b m v => rw [h2] at hr; exact hr.elim
    | on a n v =>
      rw [h1] at hr
      cases h2 : round l i with
      | no => rw [h2] at hr; exact hr.elim
      | ends b t => rw [h2] at hr; exact hr.elim
      | past b => rw [h2] at hr; exact hr.elim
      | on b m u =>
        rw [h2] at hr
        obtain ⟨rfl, rfl⟩ := hr
        refine run_low l f a _ _ ?_
        unfold addA
        rw [any_names h]
        split
        · exact h
        · rw [List.map_append, List.map_append, h]; rfl
theorem B_low (l : List UInt8) (i : Nat) : U8.B (lowL l) i = ((l[i]?.map lowC).getD 0).toNat := by
  unfold U8.B
  rw [List.getD, low_get]
theorem B_get' (l : List UInt8) (i : Nat) : U8.B l i = ((l[i]?).getD 0).toNat := rfl
theorem B_low_iff (l : List UInt8) (i : Nat) : (U8.B (lowL l) i = 47 ↔ U8.B l i = 47) ∧ (U8.B (lowL l) i = 60 ↔ U8.B l i = 60) ∧ letterN (U8.B (lowL l) i) = letterN (U8.B l i) := by
  rw [B_low, B_get']
  cases l[i]? with
  | none => exact ⟨Iff.rfl, Iff.rfl, rfl⟩
  | some c =>
    have hk := low_keeps c
    exact ⟨hk.2.2.1, hk.2.2.2.2.2.2.1, hk.2.2.2.2.2.2.2⟩
theorem beg_low (l : List UInt8) (i : Nat) : begB (lowL l) i = begB l i := by
  unfold begB
  have h0 := B_low_iff l i
  have h1 := B_low_iff l (i + 1)
  have h2 := B_low_iff l (i + 2)
  rw [lowL_len, h1.2.2, h2.2.2]
  have e0 : (U8.B (lowL l) i == 60) = (U8.B l i == 60) := by rw [Bool.eq_iff_iff]; simpa using h0.2.1
  rw [e0]
  by_cases h : U8.B l (i + 1) = 47
  · rw [if_pos h, if_pos (h1.1.2 h)]
  · rw [if_neg h, if_neg (fun e => h (h1.1.1 e))]
theorem read_low (l : List UInt8) (i : Nat) : match readP (lowL l) i, readP l i with
    | none, none => True
    | some (t, m), some (u, n) => m = n ∧ t.kind = u.kind ∧ t.name = u.name ∧ t.self = u.self ∧ t.atts.map (·.1) = u.atts.map (·.1)
    | _, _ => False := by
  have h1 := B_low_iff l (i + 1)
  have hf : fromP (lowL l) i = fromP l i := by
    unfold fromP
    by_cases h : U8.B l (i + 1) = 47
    · rw [if_pos h, if_pos (h1.1.2 h)]
    · rw [if_neg h, if_neg (fun e => h (h1.1.1 e))]
  have he : isEnd (lowL l) i = isEnd l i := by unfold isEnd; rw [Bool.eq_iff_iff]; simpa using h1.1
  have hn : nameEnd (lowL l) i = nameEnd l i := by unfold nameEnd; rw [hf, skip_low (wd_low false)]
  have hr := run_low l (l.length + 1) (nameEnd l i) [] [] rfl
  unfold readP runs
  rw [hn, hf, he, lowL_len, cut_low, lowL_low]
  cases h2 : run (lowL l) (l.length + 1) (nameEnd l i) [] with
  | none =>
    rw [h2] at hr
    cases h3 : run l (l.length + 1) (nameEnd l i) [] with
    | none => trivial
    | some x => rw [h3] at hr; exact hr.elim
  | some x =>
    rw [h2] at hr
    cases h3 : run l (l.length + 1) (nameEnd l i) [] with
    | none => rw [h3] at hr; exact hr.elim
    | some y =>
      rw [h3] at hr
      obtain ⟨A, a, s⟩ := x
      obtain ⟨B, b, t⟩ := y
      obtain ⟨k1, rfl, rfl⟩ := hr
      refine ⟨rfl, rfl, rfl, rfl, ?_⟩
      show (if isEnd l i = true then [] else A).map (·.1) = (if isEnd l i = true then [] else B).map (·.1)
      split
      · rfl
      · exact k1
end Go.Proofs.YtgldgdopabmefaaGreatDoor.Tag
