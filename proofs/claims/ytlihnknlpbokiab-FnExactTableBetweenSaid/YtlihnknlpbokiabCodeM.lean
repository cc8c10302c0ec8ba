/- The errors of networks, case by case. -/
import Derived.Test.YtlihnknlpbokiabClosedM
namespace Go.Proofs.Ytlihnknlpbokiab
open Go.RowKit

theorem netCode_cases (p : Int) (xss : List (List Int)) (row : Int) (pts : List Int) : (¬ Net p xss ∧ netCode p xss row pts = 1) ∨ (Net p xss ∧ ¬ ((0 ≤ row ∧ row ≤ 31) ∧ ∀ i, i < pts.length → 0 ≤ pts.getD i 0 ∧ pts.getD i 0 ≤ p - 1) ∧ netCode p xss row pts = 2) ∨ (Net p xss ∧ ((0 ≤ row ∧ row ≤ 31) ∧ ∀ i, i < pts.length → 0 ≤ pts.getD i 0 ∧ pts.getD i 0 ≤ p - 1) ∧ netCode p xss row pts = 0) := by
  unfold netCode
  by_cases h1 : Net p xss
  · by_cases h2 : (0 ≤ row ∧ row ≤ 31) ∧ ∀ i, i < pts.length → 0 ≤ pts.getD i 0 ∧ pts.getD i 0 ≤ p - 1
    · right; right; exact ⟨h1, h2, by rw [if_pos h1, if_pos h2]⟩
    · right; left; exact ⟨h1, h2, by rw [if_pos h1, if_neg h2]⟩
  · left; exact ⟨h1, by rw [if_neg h1]⟩

end Go.Proofs.Ytlihnknlpbokiab
