/- Walks over the reference of layer 2: what a blank byte is. -/
import Derived.Test.YtlikpmmkfjghbaaDoorByteN
namespace Go.Proofs.YtlikpmmkfjghbaaDoor
open Go.RowKit Go.Lib
set_option maxRecDepth 100000
set_option linter.unusedVariables false
theorem rspace_any (c : Nat) (hc : c < 256) (w : World) :
    Calls Tryd.prog 44 #[.int .u8 c] w fun e w' => e = .returned (.bool (spaceN c)) ∧ w = w' := by
  by_cases h0 : c = 9
  · subst h0
    have e : spaceN 9 = true := by decide
    rw [e]; clear e
    go_enter Tryd.func44, Tryd.ntmps44
    go_wp2
    go_ret
    first | exact ⟨rfl, rfl⟩ | exact ⟨by simp; omega, rfl⟩
  have t0 : ((c : Int) == 9) = false := beq_eq_false_iff_ne.2 (by omega)
  by_cases h1 : c = 10
  · subst h1
    have e : spaceN 10 = true := by decide
    rw [e]; clear e
    go_enter Tryd.func44, Tryd.ntmps44
    go_wp2
    go_ret
    first | exact ⟨rfl, rfl⟩ | exact ⟨by simp; omega, rfl⟩
  have t1 : ((c : Int) == 10) = false := beq_eq_false_iff_ne.2 (by omega)
  by_cases h2 : c = 12
  · subst h2
    have e : spaceN 12 = true := by decide
    rw [e]; clear e
    go_enter Tryd.func44, Tryd.ntmps44
    go_wp2
    go_ret
    first | exact ⟨rfl, rfl⟩ | exact ⟨by simp; omega, rfl⟩
  have t2 : ((c : Int) == 12) = false := beq_eq_false_iff_ne.2 (by omega)
  by_cases h3 : c = 13
  · subst h3
    have e : spaceN 13 = true := by decide
    rw [e]; clear e
    go_enter Tryd.func44, Tryd.ntmps44
    go_wp2
    go_ret
    first | exact ⟨rfl, rfl⟩ | exact ⟨by simp; omega, rfl⟩
  have t3 : ((c : Int) == 13) = false := beq_eq_false_iff_ne.2 (by omega)
  by_cases h4 : c = 32
  · subst h4
    have e : spaceN 32 = true := by decide
    rw [e]; clear e
    go_enter Tryd.func44, Tryd.ntmps44
    go_wp2
    go_ret
    first | exact ⟨rfl, rfl⟩ | exact ⟨by simp; omega, rfl⟩
  have t4 : ((c : Int) == 32) = false := beq_eq_false_iff_ne.2 (by omega)
  have e : spaceN c = false := by simp [spaceN, h0, h1, h2, h3, h4]
  rw [e]; clear e h0 h1 h2 h3 h4
  go_enter Tryd.func44, Tryd.ntmps44
  go_wp2
  go_ret
  first | exact ⟨rfl, rfl⟩ | exact ⟨by simp; omega, rfl⟩
end Go.Proofs.YtlikpmmkfjghbaaDoor
