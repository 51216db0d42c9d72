/- Plain Lean: texts as the chapter on bytes says them, over lists of bytes: what the first bytes are ('front'), what bytes say ('plain'), whether they are a text ('right'). Nothing of a program stands here. -/
import Derived.Lib.RuneBytes
import Derived.Lib.DecodeN
import Derived.Lib.Strings
namespace Go.Proofs.Ytmgbjkekfejnfaa.U8
open Go.Lib

/-- Byte j, as a number; 0 beyond the end. -/
def B (l : List UInt8) (j : Nat) : Nat := (l.getD j 0).toNat

/-- May a byte stand second behind one? -/
def sec (a b : Nat) : Bool :=
  if a = 224 then decide (160 ≤ b ∧ b ≤ 191) else if a = 237 then decide (128 ≤ b ∧ b ≤ 159) else if a = 240 then decide (144 ≤ b ∧ b ≤ 191)
  else if a = 244 then decide (128 ≤ b ∧ b ≤ 143) else decide (128 ≤ b ∧ b ≤ 191)
def cont (b : Nat) : Bool := decide (128 ≤ b ∧ b ≤ 191)
def many (a : Nat) : Nat :=
  if a < 128 then 1 else if 194 ≤ a ∧ a ≤ 223 then 2 else if 224 ≤ a ∧ a ≤ 239 then 3 else if 240 ≤ a ∧ a ≤ 244 then 4 else 0

/-- Of n bytes that begin b0 b1 b2 b3: how many begin a character together, and is it whole? -/
def frontN (n b0 b1 b2 b3 : Nat) : Nat × Bool :=
  if b0 < 128 then (1, true)
  else if b0 < 194 ∨ 244 < b0 then (1, false)
  else if ¬ (1 < n ∧ sec b0 b1 = true) then (1, false)
  else if b0 < 224 then (2, true)
  else if ¬ (2 < n ∧ cont b2 = true) then (2, false)
  else if b0 < 240 then (3, true)
  else if ¬ (3 < n ∧ cont b3 = true) then (3, false)
  else (4, true)
def front (l : List UInt8) : Nat × Bool := frontN l.length (B l 0) (B l 1) (B l 2) (B l 3)

def bad : List UInt8 := [239, 191, 189]
/-- What the first bytes say. -/
def stepOut (l : List UInt8) : List UInt8 := if (front l).2 = true ∧ B l 0 ≠ 0 then l.take (front l).1 else bad
def plainF : Nat → List UInt8 → List UInt8
  | 0, _ => []
  | f + 1, l => if l = [] then [] else stepOut l ++ plainF f (l.drop (front l).1)
def plain (l : List UInt8) : List UInt8 := plainF l.length l
def rightF : Nat → List UInt8 → Bool
  | 0, _ => true
  | f + 1, l => if l = [] then true else (front l).2 && decide (B l 0 ≠ 0) && rightF f (l.drop (front l).1)
def right (l : List UInt8) : Bool := rightF l.length l
def text (l : List UInt8) : List UInt8 := plain (trimPrefix l [239, 187, 191])

/-! ### bytes -/
theorem B_lt (l : List UInt8) (j : Nat) : B l j < 256 := (l.getD j 0).toNat_lt
theorem B_drop (l : List UInt8) (k j : Nat) : B (l.drop k) j = B l (k + j) := by simp [B, List.getD, List.getElem?_drop]
theorem B_append_left (l r : List UInt8) (j : Nat) (h : j < l.length) : B (l ++ r) j = B l j := by simp [B, List.getD, List.getElem?_append_left h]
theorem B_append_right (l r : List UInt8) (j : Nat) : B (l ++ r) (l.length + j) = B r j := by simp [B, List.getD, List.getElem?_append_right]
theorem B_ge (l : List UInt8) (j : Nat) (h : l.length ≤ j) : B l j = 0 := by simp [B, List.getD, List.getElem?_eq_none h]
theorem B_take (l : List UInt8) (k j : Nat) (h : j < k) : B (l.take k) j = B l j := by simp [B, List.getD, h]
theorem B_eq {l : List UInt8} {j : Nat} {c : UInt8} (h : l[j]? = some c) : B l j = c.toNat := by simp [B, List.getD, h]
theorem ext_B {l r : List UInt8} (hl : l.length = r.length) (h : ∀ j, j < l.length → B l j = B r j) : l = r := by
  apply List.ext_getElem hl
  intro j h1 h2
  have := h j h1
  rw [B_eq (List.getElem?_eq_getElem h1), B_eq (List.getElem?_eq_getElem h2)] at this
  exact UInt8.toNat_inj.1 this

/-! ### the first bytes -/
theorem frontN_le (n b0 b1 b2 b3 : Nat) (hn : 1 ≤ n) : 1 ≤ (frontN n b0 b1 b2 b3).1 ∧ (frontN n b0 b1 b2 b3).1 ≤ n ∧ (frontN n b0 b1 b2 b3).1 ≤ 4 := by
  unfold frontN
  repeat' split
  all_goals (simp only [Classical.not_not] at *; omega)
theorem front_le (l : List UInt8) (h : l ≠ []) : 1 ≤ (front l).1 ∧ (front l).1 ≤ l.length ∧ (front l).1 ≤ 4 :=
  frontN_le _ _ _ _ _ (by cases l with
    | nil => exact absurd rfl h
    | cons a r => simp)
theorem sec_cont {a b : Nat} (h : sec a b = true) : 128 ≤ b ∧ b ≤ 191 := by
  unfold sec at h
  repeat' split at h
  all_goals (simp at h; omega)
theorem cont_iff {b : Nat} : cont b = true ↔ 128 ≤ b ∧ b ≤ 191 := by simp [cont]
theorem frontN_tail (n b0 b1 b2 b3 : Nat) : (1 < (frontN n b0 b1 b2 b3).1 → 128 ≤ b1 ∧ b1 ≤ 191) ∧ (2 < (frontN n b0 b1 b2 b3).1 → 128 ≤ b2 ∧ b2 ≤ 191) ∧ (3 < (frontN n b0 b1 b2 b3).1 → 128 ≤ b3 ∧ b3 ≤ 191) := by
  have hs := @sec_cont b0 b1
  have hc2 := @cont_iff b2
  have hc3 := @cont_iff b3
  by_cases d0 : b0 < 128
  · simp [frontN, d0]
  by_cases d1 : b0 < 194 ∨ 244 < b0
  · simp [frontN, d0, d1]
  by_cases d2 : 1 < n ∧ sec b0 b1 = true
  · have g1 := hs d2.2
    by_cases d3 : b0 < 224
    · have ef : frontN n b0 b1 b2 b3 = (2, true) := by unfold frontN; rw [if_neg d0, if_neg d1, if_neg (fun h => h d2), if_pos d3]
      rw [ef]; exact ⟨fun _ => g1, fun h => by simp at h, fun h => by simp at h⟩
    by_cases d4 : 2 < n ∧ cont b2 = true
    · have g2 := hc2.1 d4.2
      by_cases d5 : b0 < 240
      · have ef : frontN n b0 b1 b2 b3 = (3, true) := by unfold frontN; rw [if_neg d0, if_neg d1, if_neg (fun h => h d2), if_neg d3, if_neg (fun h => h d4), if_pos d5]
        rw [ef]; exact ⟨fun _ => g1, fun _ => g2, fun h => by simp at h⟩
      by_cases d6 : 3 < n ∧ cont b3 = true
      · exact ⟨fun _ => g1, fun _ => g2, fun _ => hc3.1 d6.2⟩
      · have ef : frontN n b0 b1 b2 b3 = (3, false) := by unfold frontN; rw [if_neg d0, if_neg d1, if_neg (fun h => h d2), if_neg d3, if_neg (fun h => h d4), if_neg d5, if_pos d6]
        rw [ef]; exact ⟨fun _ => g1, fun _ => g2, fun h => by simp at h⟩
    · have ef : frontN n b0 b1 b2 b3 = (2, false) := by unfold frontN; rw [if_neg d0, if_neg d1, if_neg (fun h => h d2), if_neg d3, if_pos d4]
      rw [ef]; exact ⟨fun _ => g1, fun h => by simp at h, fun h => by simp at h⟩
  · have ef : frontN n b0 b1 b2 b3 = (1, false) := by unfold frontN; rw [if_neg d0, if_neg d1, if_pos d2]
    rw [ef]; exact ⟨fun h => by simp at h, fun h => by simp at h, fun h => by simp at h⟩
/-- What stands behind the first of them is no beginning. -/
theorem front_tail (l : List UInt8) (j : Nat) (h1 : 1 ≤ j) (h2 : j < (front l).1) : 128 ≤ B l j ∧ B l j ≤ 191 := by
  have ht := frontN_tail l.length (B l 0) (B l 1) (B l 2) (B l 3)
  have ef : (frontN l.length (B l 0) (B l 1) (B l 2) (B l 3)).1 = (front l).1 := rfl
  rw [ef] at ht
  have h4 : (front l).1 ≤ 4 := by
    by_cases h : l = []
    · subst h; decide
    · exact (front_le l h).2.2
  match j, h1, h2 with
  | 1, _, h2 => exact ht.1 h2
  | 2, _, h2 => exact ht.2.1 h2
  | 3, _, h2 => exact ht.2.2 h2
  | j + 4, _, h2 => omega

/-! ### what bytes say -/
theorem plainF_fuel : ∀ (f g : Nat) (l : List UInt8), l.length ≤ f → l.length ≤ g → plainF f l = plainF g l
  | 0, g, l, hf, _ => by
    obtain rfl : l = [] := List.length_eq_zero_iff.1 (by omega)
    cases g <;> simp [plainF]
  | f + 1, 0, l, _, hg => by
    obtain rfl : l = [] := List.length_eq_zero_iff.1 (by omega)
    simp [plainF]
  | f + 1, g + 1, l, hf, hg => by
    by_cases h : l = []
    · simp [plainF, h]
    · have := front_le l h
      simp only [plainF, if_neg h]
      rw [plainF_fuel f g (l.drop (front l).1) (by simp; omega) (by simp; omega)]
theorem plain_nil : plain [] = [] := rfl
theorem plain_step (l : List UInt8) (h : l ≠ []) : plain l = stepOut l ++ plain (l.drop (front l).1) := by
  have hl := front_le l h
  have h1 : plain l = plainF (l.length - 1 + 1) l := plainF_fuel _ _ _ (by omega) (by omega)
  rw [h1]
  simp only [plainF, if_neg h]
  rw [plainF_fuel (l.length - 1) (l.drop (front l).1).length _ (by simp; omega) (by omega)]
  rfl
theorem rightF_fuel : ∀ (f g : Nat) (l : List UInt8), l.length ≤ f → l.length ≤ g → rightF f l = rightF g l
  | 0, g, l, hf, _ => by
    obtain rfl : l = [] := List.length_eq_zero_iff.1 (by omega)
    cases g <;> simp [rightF]
  | f + 1, 0, l, _, hg => by
    obtain rfl : l = [] := List.length_eq_zero_iff.1 (by omega)
    simp [rightF]
  | f + 1, g + 1, l, hf, hg => by
    by_cases h : l = []
    · simp [rightF, h]
    · have := front_le l h
      simp only [rightF, if_neg h]
      rw [rightF_fuel f g (l.drop (front l).1) (by simp; omega) (by simp; omega)]
theorem right_nil : right [] = true := rfl
theorem right_step (l : List UInt8) (h : l ≠ []) : right l = ((front l).2 && decide (B l 0 ≠ 0) && right (l.drop (front l).1)) := by
  have hl := front_le l h
  have h1 : right l = rightF (l.length - 1 + 1) l := rightF_fuel _ _ _ (by omega) (by omega)
  rw [h1]
  simp only [rightF, if_neg h]
  rw [rightF_fuel (l.length - 1) (l.drop (front l).1).length _ (by simp; omega) (by omega)]
  rfl

/-- Induction by steps. -/
theorem steps {P : List UInt8 → Prop} (h0 : P []) (h1 : ∀ l, l ≠ [] → P (l.drop (front l).1) → P l) : ∀ l, P l := by
  have key : ∀ n (l : List UInt8), l.length ≤ n → P l := by
    intro n
    induction n with
    | zero => intro l hl; obtain rfl : l = [] := List.length_eq_zero_iff.1 (by omega); exact h0
    | succ n ih =>
      intro l hl
      by_cases h : l = []
      · subst h; exact h0
      · exact h1 l h (ih _ (by have := front_le l h; simp; omega))
  exact fun l => key l.length l (Nat.le_refl _)

theorem bad_front (r : List UInt8) : front (bad ++ r) = (3, true) := by
  have e0 : B (bad ++ r) 0 = 239 := rfl
  have e1 : B (bad ++ r) 1 = 191 := rfl
  have e2 : B (bad ++ r) 2 = 189 := rfl
  have hl : (bad ++ r).length = r.length + 3 := by simp [bad]
  unfold front frontN
  rw [e0, e1, e2, hl]
  rw [if_neg (by omega), if_neg (by omega), if_neg (by simp [sec]), if_neg (by omega), if_neg (by simp [cont]), if_pos (by omega)]
theorem bad_right (r : List UInt8) : right (bad ++ r) = right r := by
  rw [right_step _ (by simp [bad]), bad_front]
  have : B (bad ++ r) 0 = 239 := rfl
  rw [this]
  simp [bad]

/-- A text's steps are itself. -/
theorem plain_of_right : ∀ l, right l = true → plain l = l := by
  apply steps
  · intro _; rfl
  · intro l h ih hr
    rw [right_step l h] at hr
    simp only [Bool.and_eq_true, decide_eq_true_eq] at hr
    rw [plain_step l h, ih hr.2, stepOut, if_pos hr.1, List.take_append_drop]
theorem stepOut_length (l : List UInt8) (h : l ≠ []) (hc : (front l).2 = true ∧ B l 0 ≠ 0) : (stepOut l).length = (front l).1 := by
  have := front_le l h
  rw [stepOut, if_pos hc]; simp; omega
theorem right_of_plain : ∀ l, plain l = l → right l = true := by
  apply steps
  · intro _; rfl
  · intro l h ih hp
    by_cases hc : (front l).2 = true ∧ B l 0 ≠ 0
    · have hd : plain (l.drop (front l).1) = l.drop (front l).1 := by
        rw [plain_step l h, stepOut, if_pos hc] at hp
        have h2 : l.take (front l).1 ++ plain (l.drop (front l).1) = l.take (front l).1 ++ l.drop (front l).1 := by rw [hp, List.take_append_drop]
        exact List.append_cancel_left h2
      rw [right_step l h, ih hd]
      simp [hc.1, hc.2]
    · exfalso
      rw [plain_step l h, stepOut, if_neg hc] at hp
      apply hc
      rw [← hp]
      exact ⟨by rw [bad_front], by show B (bad ++ _) 0 ≠ 0; exact (by decide : (239 : Nat) ≠ 0)⟩
theorem right_iff (l : List UInt8) : right l = true ↔ plain l = l := ⟨plain_of_right l, right_of_plain l⟩

/-! ### a whole beginning says the same, whatever stands behind -/
theorem frontN_same {n n' b0 b1 b2 b3 c1 c2 c3 : Nat} (hw : (frontN n b0 b1 b2 b3).2 = true) (hn : (frontN n b0 b1 b2 b3).1 ≤ n')
    (e1 : 1 < (frontN n b0 b1 b2 b3).1 → c1 = b1) (e2 : 2 < (frontN n b0 b1 b2 b3).1 → c2 = b2) (e3 : 3 < (frontN n b0 b1 b2 b3).1 → c3 = b3) :
    frontN n' b0 c1 c2 c3 = frontN n b0 b1 b2 b3 := by
  by_cases d0 : b0 < 128
  · simp [frontN, d0]
  by_cases d1 : b0 < 194 ∨ 244 < b0
  · simp [frontN, d0, d1] at hw
  by_cases d2 : 1 < n ∧ sec b0 b1 = true
  · have d2' : ¬ ¬ (1 < n ∧ sec b0 b1 = true) := fun h => h d2
    by_cases d3 : b0 < 224
    · have ef : frontN n b0 b1 b2 b3 = (2, true) := by unfold frontN; rw [if_neg d0, if_neg d1, if_neg d2', if_pos d3]
      rw [ef] at e1 hn ⊢
      have g1 := e1 (by omega); subst g1
      unfold frontN; rw [if_neg d0, if_neg d1, if_neg (fun h => h ⟨by omega, d2.2⟩), if_pos d3]
    by_cases d4 : 2 < n ∧ cont b2 = true
    · have d4' : ¬ ¬ (2 < n ∧ cont b2 = true) := fun h => h d4
      by_cases d5 : b0 < 240
      · have ef : frontN n b0 b1 b2 b3 = (3, true) := by unfold frontN; rw [if_neg d0, if_neg d1, if_neg d2', if_neg d3, if_neg d4', if_pos d5]
        rw [ef] at e1 e2 hn ⊢
        have g1 := e1 (by omega); have g2 := e2 (by omega); subst g1; subst g2
        unfold frontN; rw [if_neg d0, if_neg d1, if_neg (fun h => h ⟨by omega, d2.2⟩), if_neg d3, if_neg (fun h => h ⟨by omega, d4.2⟩), if_pos d5]
      by_cases d6 : 3 < n ∧ cont b3 = true
      · have d6' : ¬ ¬ (3 < n ∧ cont b3 = true) := fun h => h d6
        have ef : frontN n b0 b1 b2 b3 = (4, true) := by unfold frontN; rw [if_neg d0, if_neg d1, if_neg d2', if_neg d3, if_neg d4', if_neg d5, if_neg d6']
        rw [ef] at e1 e2 e3 hn ⊢
        have g1 := e1 (by omega); have g2 := e2 (by omega); have g3 := e3 (by omega); subst g1; subst g2; subst g3
        unfold frontN; rw [if_neg d0, if_neg d1, if_neg (fun h => h ⟨by omega, d2.2⟩), if_neg d3, if_neg (fun h => h ⟨by omega, d4.2⟩), if_neg d5, if_neg (fun h => h ⟨by omega, d6.2⟩)]
      · have ef : frontN n b0 b1 b2 b3 = (3, false) := by unfold frontN; rw [if_neg d0, if_neg d1, if_neg d2', if_neg d3, if_neg d4', if_neg d5, if_pos d6]
        rw [ef] at hw; cases hw
    · have ef : frontN n b0 b1 b2 b3 = (2, false) := by unfold frontN; rw [if_neg d0, if_neg d1, if_neg d2', if_neg d3, if_pos d4]
      rw [ef] at hw; cases hw
  · have ef : frontN n b0 b1 b2 b3 = (1, false) := by unfold frontN; rw [if_neg d0, if_neg d1, if_pos d2]
    rw [ef] at hw; cases hw
theorem front_whole (l r : List UInt8) (h : l ≠ []) (hw : (front l).2 = true) : front (l ++ r) = front l := by
  have hl := front_le l h
  have hlen : (l ++ r).length = l.length + r.length := by simp
  have e0 : B (l ++ r) 0 = B l 0 := B_append_left _ _ _ (by omega)
  show frontN (l ++ r).length (B (l ++ r) 0) _ _ _ = frontN l.length _ _ _ _
  rw [e0]
  exact frontN_same hw (by have : (frontN l.length (B l 0) (B l 1) (B l 2) (B l 3)).1 = (front l).1 := rfl; omega)
    (fun h => B_append_left _ _ _ (by have : (frontN l.length (B l 0) (B l 1) (B l 2) (B l 3)).1 = (front l).1 := rfl; omega))
    (fun h => B_append_left _ _ _ (by have : (frontN l.length (B l 0) (B l 1) (B l 2) (B l 3)).1 = (front l).1 := rfl; omega))
    (fun h => B_append_left _ _ _ (by have : (frontN l.length (B l 0) (B l 1) (B l 2) (B l 3)).1 = (front l).1 := rfl; omega))
theorem front_take (l : List UInt8) (h : l ≠ []) (hw : (front l).2 = true) : front (l.take (front l).1) = front l := by
  have hl := front_le l h
  have hlen : (l.take (front l).1).length = (front l).1 := by simp; omega
  have e0 : B (l.take (front l).1) 0 = B l 0 := B_take _ _ _ (by omega)
  have ef : (frontN l.length (B l 0) (B l 1) (B l 2) (B l 3)).1 = (front l).1 := rfl
  show frontN (l.take (front l).1).length (B (l.take (front l).1) 0) _ _ _ = frontN l.length _ _ _ _
  rw [e0, hlen]
  exact frontN_same hw (by omega) (fun h => B_take _ _ _ (by omega)) (fun h => B_take _ _ _ (by omega)) (fun h => B_take _ _ _ (by omega))
theorem plain_append : ∀ (l r : List UInt8), right l = true → plain (l ++ r) = l ++ plain r := by
  intro l r
  revert l
  apply steps
  · intro _; rfl
  · intro l h ih hr
    rw [right_step l h] at hr
    simp only [Bool.and_eq_true, decide_eq_true_eq] at hr
    obtain ⟨⟨hw, h0⟩, hd⟩ := hr
    have hl := front_le l h
    have hf := front_whole l r h hw
    have hne : l ++ r ≠ [] := by simp [h]
    have h0l : 0 < l.length := by omega
    rw [plain_step _ hne, stepOut, hf, B_append_left _ _ _ h0l, if_pos ⟨hw, h0⟩]
    rw [List.drop_append_of_le_length hl.2.1, List.take_append_of_le_length hl.2.1, ih hd, ← List.append_assoc, List.take_append_drop]
theorem right_append (l r : List UInt8) (h : right l = true) : right (l ++ r) = right r := by
  cases hr : right r with
  | true => rw [right_iff] at hr; rw [right_iff, plain_append l r h, hr]
  | false =>
    cases hb : right (l ++ r) with
    | false => rfl
    | true =>
      rw [right_iff, plain_append l r h] at hb
      have := (right_iff r).2 (List.append_cancel_left hb)
      rw [this] at hr; cases hr
theorem right_take (l : List UInt8) (h : l ≠ []) (hw : (front l).2 = true) (h0 : B l 0 ≠ 0) : right (l.take (front l).1) = true := by
  have hl := front_le l h
  have hne : l.take (front l).1 ≠ [] := by
    intro e
    have := congrArg List.length e
    have h2 : (l.take (front l).1).length = (front l).1 := by simp; omega
    rw [h2] at this; simp at this; omega
  have hlen : (l.take (front l).1).length = (front l).1 := by simp; omega
  have hf := front_take l h hw
  have h0k : 0 < (front l).1 := by omega
  rw [right_step _ hne, hf, B_take _ _ _ h0k, List.drop_of_length_le (by omega)]
  simp [hw, h0, right_nil]
theorem right_bad : right bad = true := by decide
theorem right_stepOut (l : List UInt8) (h : l ≠ []) : right (stepOut l) = true := by
  unfold stepOut
  split
  · rename_i hc; exact right_take l h hc.1 hc.2
  · exact right_bad
/-- What bytes say is a text. -/
theorem right_plain : ∀ l, right (plain l) = true := by
  apply steps
  · rfl
  · intro l h ih
    rw [plain_step l h, right_append _ _ (right_stepOut l h), ih]
theorem right_text (l : List UInt8) : right (text l) = true := right_plain _

/-! ### how long it is -/
theorem stepOut_le (l : List UInt8) (h : l ≠ []) : (stepOut l).length ≤ 3 * (front l).1 := by
  have := front_le l h
  unfold stepOut
  split
  · simp; omega
  · simp [bad]; omega
theorem plain_le : ∀ l, (plain l).length ≤ 3 * l.length := by
  apply steps
  · simp [plain_nil]
  · intro l h ih
    have h1 := front_le l h
    have h2 := stepOut_le l h
    rw [plain_step l h]
    simp at ih ⊢
    omega
end Go.Proofs.Ytmgbjkekfejnfaa.U8
