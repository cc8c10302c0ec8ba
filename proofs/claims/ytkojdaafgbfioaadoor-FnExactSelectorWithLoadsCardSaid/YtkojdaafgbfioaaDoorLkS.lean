/- A small law for the walks of laws with slices. -/
import Derived.Test.YtkojdaafgbfioaaDoorLkL
namespace Go.Proofs.YtkojdaafgbfioaaDoor
open Go.RowKit
set_option linter.unusedVariables false

theorem toInt64S_x (va : Value) (xs : List Int) (w : World) (ha : Reads w va xs) (hn : xs.length ≤ 1048576) :
    Calls Tryd.prog 6 #[va] w fun e w' => ∃ u B C, e = .returned u ∧ In w' B C u xs ∧ w.heap.size ≤ B ∧ (B ≤ C ∧ C ≤ w'.heap.size) ∧ Below w.heap.size w w' := by
  refine (toInt64S_any va xs w ha hn).mono ?_
  rintro e w' ⟨u, rfl, h, hb⟩
  exact ⟨u, _, _, rfl, In.of h (Nat.le_refl _) (Nat.le_refl _), Nat.le_refl _, ⟨hb.size, Nat.le_refl _⟩, hb⟩

end Go.Proofs.YtkojdaafgbfioaaDoor
