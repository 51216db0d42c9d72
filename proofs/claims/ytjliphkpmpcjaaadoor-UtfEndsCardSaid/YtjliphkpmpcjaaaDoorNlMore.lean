/- Plain Lean: lines, put together again; ends made alike twice. Nothing of a program stands here. -/
import Derived.Test.YtjliphkpmpcjaaaDoorNl
namespace Go.Proofs.YtjliphkpmpcjaaaDoor.Nl
open Go.Lib

def join : List (List UInt8) → List UInt8
  | [] => []
  | a :: r => a ++ 10 :: join r
theorem join_append : ∀ (a b : List (List UInt8)), join (a ++ b) = join a ++ join b
  | [], _ => rfl
  | x :: a, b => by simp [join, join_append a b]
theorem join_split : ∀ (t cur : List UInt8), join (split cur t) = cur ++ t ∨ join (split cur t) = cur ++ t ++ [10]
  | [], cur => by
    unfold split
    by_cases h : cur = []
    · subst h; left; rfl
    · rw [if_neg h]; right; simp [join]
  | c :: r, cur => by
    unfold split
    by_cases h : c = 10
    · subst h
      rw [if_pos rfl]
      rcases join_split r [] with h1 | h1
      · left; simp [join, h1]
      · right; simp [join, h1]
    · rw [if_neg h]
      rcases join_split r (cur ++ [c]) with h1 | h1
      · left; rw [h1]; simp
      · right; rw [h1]; simp
theorem join_lines (l : List UInt8) : join (lines l) = nl l ∨ join (lines l) = nl l ++ [10] := by
  have := join_split (nl l) []
  simpa [lines] using this
theorem nl_no13 : ∀ (b : Bool) (l : List UInt8), ∀ c ∈ nlS b l, c ≠ 13
  | _, [] => by intro c hc; simp [nlS] at hc
  | b, d :: r => by
    have h1 := nl_no13 false r
    have h2 := nl_no13 true r
    intro c hc
    unfold nlS at hc
    split at hc
    · exact h1 c hc
    · split at hc
      · rcases List.mem_cons.1 hc with rfl | hc
        · decide
        · exact h2 c hc
      · rcases List.mem_cons.1 hc with rfl | hc
        · assumption
        · exact h1 c hc
theorem nl_plain : ∀ (l : List UInt8), (∀ c ∈ l, c ≠ 13) → nl l = l
  | [], _ => rfl
  | c :: r, h => by rw [nl_other _ (h c (by simp)), nl_plain r (fun x hx => h x (by simp [hx]))]
theorem nl_nl (l : List UInt8) : nl (nl l) = nl l := nl_plain _ (nl_no13 false l)
theorem lines_nl (l : List UInt8) : lines (nl l) = lines l := by unfold lines; rw [nl_nl]
theorem join_le : ∀ (t cur : List UInt8), (join (split cur t)).length ≤ cur.length + t.length + 1 := by
  intro t cur
  rcases join_split t cur with h | h
  · rw [h]; simp
  · rw [h]; simp; omega
theorem split_le : ∀ (t cur : List UInt8), (split cur t).length ≤ t.length + 1
  | [], cur => by unfold split; split <;> simp
  | c :: r, cur => by
    unfold split
    split
    · have := split_le r []; simp; omega
    · have := split_le r (cur ++ [c]); simp; omega
end Go.Proofs.YtjliphkpmpcjaaaDoor.Nl
