/- Walks over the reference of layer 1: many, second, front. -/
import Derived.Test.YthfaogodiefefaaDoorBase
namespace Go.Proofs.YthfaogodiefefaaDoor
open Go.RowKit Go.Lib
set_option maxRecDepth 100000

theorem ret_int {k : IntKind} {a b : Int} (h : a = b) : Ending.returned (.int k a) = .returned (.int k b) := by rw [h]

theorem ret_bool {p : Prop} [Decidable p] {b : Bool} (h : decide p = b) : Ending.returned (.bool (decide p)) = .returned (.bool b) := by rw [h]

theorem many_any (n : Nat) (hn : n < 256) (w : World) :
    Calls Tryd.prog 59 #[.int .u8 n] w fun e w' => e = .returned (.int .i64 (U8.many n)) ∧ w = w' := by
  by_cases h1 : n < 128
  · have e : U8.many n = 1 := by simp [U8.many, h1]
    rw [e]; clear e
    go_enter Tryd.func59, Tryd.ntmps59
    go_wp2
    go_ret
    exact ⟨rfl, rfl⟩
  by_cases h2 : 194 ≤ n ∧ n ≤ 223
  · have e : U8.many n = 2 := by simp [U8.many, h1, h2]
    rw [e]; clear e
    obtain ⟨h2a, h2b⟩ := h2
    go_enter Tryd.func59, Tryd.ntmps59
    go_wp2
    go_ret
    exact ⟨rfl, rfl⟩
  by_cases h3 : 224 ≤ n ∧ n ≤ 239
  · have e : U8.many n = 3 := by simp only [U8.many]; rw [if_neg h1, if_neg h2, if_pos h3]
    rw [e]; clear e
    obtain ⟨h3a, h3b⟩ := h3
    clear h2 h1
    go_enter Tryd.func59, Tryd.ntmps59
    go_wp2
    go_ret
    exact ⟨rfl, rfl⟩
  by_cases h4 : 240 ≤ n ∧ n ≤ 244
  · have e : U8.many n = 4 := by simp only [U8.many]; rw [if_neg h1, if_neg h2, if_neg h3, if_pos h4]
    rw [e]; clear e
    obtain ⟨h4a, h4b⟩ := h4
    clear h3 h2 h1
    go_enter Tryd.func59, Tryd.ntmps59
    go_wp2
    go_ret
    exact ⟨rfl, rfl⟩
  have e : U8.many n = 0 := by simp only [U8.many]; rw [if_neg h1, if_neg h2, if_neg h3, if_neg h4]
  rw [e]; clear e
  have h5 : 128 ≤ n := by omega
  rcases (show n < 194 ∨ 244 < n by omega) with h6 | h6
  all_goals
    clear h4 h3 h2 h1
    go_enter Tryd.func59, Tryd.ntmps59
    go_wp2
    go_ret
    exact ⟨rfl, rfl⟩

theorem sec_yes {a b : Nat} (h : 128 ≤ b ∧ b ≤ 191 ∧ (a = 224 → 160 ≤ b) ∧ (a = 237 → b ≤ 159) ∧ (a = 240 → 144 ≤ b) ∧ (a = 244 → b ≤ 143)) : U8.sec a b = true := (U8.sec_iff a b).2 h
theorem sec_no {a b : Nat} (h : ¬ (128 ≤ b ∧ b ≤ 191 ∧ (a = 224 → 160 ≤ b) ∧ (a = 237 → b ≤ 159) ∧ (a = 240 → 144 ≤ b) ∧ (a = 244 → b ≤ 143))) : U8.sec a b = false := by
  cases hs : U8.sec a b with
  | false => rfl
  | true => exact absurd ((U8.sec_iff a b).1 hs) h

set_option maxHeartbeats 1600000 in
theorem second_any (a b : Nat) (w : World) :
    Calls Tryd.prog 60 #[.int .u8 a, .int .u8 b] w fun e w' => e = .returned (.bool (U8.sec a b)) ∧ w = w' := by
  by_cases a1 : a = 224
  · subst a1
    rcases (show b < 160 ∨ (160 ≤ b ∧ b ≤ 191) ∨ 191 < b by omega) with h | ⟨h, h'⟩ | h
    case inr.inl =>
      rw [sec_yes (by omega)]
      go_enter Tryd.func60, Tryd.ntmps60
      go_wp2
      go_ret
      first | exact ⟨rfl, rfl⟩ | exact ⟨ret_bool (decide_eq_true (by omega)), rfl⟩ | exact ⟨ret_bool (decide_eq_false (by omega)), rfl⟩
    all_goals
      rw [sec_no (by omega)]
      go_enter Tryd.func60, Tryd.ntmps60
      go_wp2
      go_ret
      first | exact ⟨rfl, rfl⟩ | exact ⟨ret_bool (decide_eq_true (by omega)), rfl⟩ | exact ⟨ret_bool (decide_eq_false (by omega)), rfl⟩
  by_cases a2 : a = 237
  · subst a2
    rcases (show b < 128 ∨ (128 ≤ b ∧ b ≤ 159) ∨ 159 < b by omega) with h | ⟨h, h'⟩ | h
    case inr.inl =>
      rw [sec_yes (by omega)]
      go_enter Tryd.func60, Tryd.ntmps60
      go_wp2
      go_ret
      first | exact ⟨rfl, rfl⟩ | exact ⟨ret_bool (decide_eq_true (by omega)), rfl⟩ | exact ⟨ret_bool (decide_eq_false (by omega)), rfl⟩
    all_goals
      rw [sec_no (by omega)]
      go_enter Tryd.func60, Tryd.ntmps60
      go_wp2
      go_ret
      first | exact ⟨rfl, rfl⟩ | exact ⟨ret_bool (decide_eq_true (by omega)), rfl⟩ | exact ⟨ret_bool (decide_eq_false (by omega)), rfl⟩
  by_cases a3 : a = 240
  · subst a3
    rcases (show b < 144 ∨ (144 ≤ b ∧ b ≤ 191) ∨ 191 < b by omega) with h | ⟨h, h'⟩ | h
    case inr.inl =>
      rw [sec_yes (by omega)]
      go_enter Tryd.func60, Tryd.ntmps60
      go_wp2
      go_ret
      first | exact ⟨rfl, rfl⟩ | exact ⟨ret_bool (decide_eq_true (by omega)), rfl⟩ | exact ⟨ret_bool (decide_eq_false (by omega)), rfl⟩
    all_goals
      rw [sec_no (by omega)]
      go_enter Tryd.func60, Tryd.ntmps60
      go_wp2
      go_ret
      first | exact ⟨rfl, rfl⟩ | exact ⟨ret_bool (decide_eq_true (by omega)), rfl⟩ | exact ⟨ret_bool (decide_eq_false (by omega)), rfl⟩
  by_cases a4 : a = 244
  · subst a4
    rcases (show b < 128 ∨ (128 ≤ b ∧ b ≤ 143) ∨ 143 < b by omega) with h | ⟨h, h'⟩ | h
    case inr.inl =>
      rw [sec_yes (by omega)]
      go_enter Tryd.func60, Tryd.ntmps60
      go_wp2
      go_ret
      first | exact ⟨rfl, rfl⟩ | exact ⟨ret_bool (decide_eq_true (by omega)), rfl⟩ | exact ⟨ret_bool (decide_eq_false (by omega)), rfl⟩
    all_goals
      rw [sec_no (by omega)]
      go_enter Tryd.func60, Tryd.ntmps60
      go_wp2
      go_ret
      first | exact ⟨rfl, rfl⟩ | exact ⟨ret_bool (decide_eq_true (by omega)), rfl⟩ | exact ⟨ret_bool (decide_eq_false (by omega)), rfl⟩
  rcases (show b < 128 ∨ (128 ≤ b ∧ b ≤ 191) ∨ 191 < b by omega) with h | ⟨h, h'⟩ | h
  case inr.inl =>
    rw [sec_yes (by omega)]
    go_enter Tryd.func60, Tryd.ntmps60
    go_wp2
    go_ret
    first | exact ⟨rfl, rfl⟩ | exact ⟨ret_bool (decide_eq_true (by omega)), rfl⟩ | exact ⟨ret_bool (decide_eq_false (by omega)), rfl⟩
  all_goals
    rw [sec_no (by omega)]
    go_enter Tryd.func60, Tryd.ntmps60
    go_wp2
    go_ret
    first | exact ⟨rfl, rfl⟩ | exact ⟨ret_bool (decide_eq_true (by omega)), rfl⟩ | exact ⟨ret_bool (decide_eq_false (by omega)), rfl⟩
end Go.Proofs.YthfaogodiefefaaDoor
