/- ValueInRow: the program's and the model's. -/
import Derived.Test.YtapcblibokkhcaaDoorAt
namespace Go.Proofs.YtapcblibokkhcaaDoor
open Go.RowKit
set_option linter.unusedVariables false

/-- what ValueInRow gives -/
def valueInRow (n v k : Int) : Value :=
  if isTab n v then (if 0 ≤ k ∧ k < rcZ n then .tuple #[.int .i64 (digZ v k), .int .i64 0] else .tuple #[.int .i64 0, .int .i64 2]) else .tuple #[.int .i64 0, .int .i64 1]

theorem valueInRow_cases (n v k : Int) : ∃ a b : Int, valueInRow n v k = .tuple #[.int .i64 a, .int .i64 b] := by
  unfold valueInRow; split
  · split <;> exact ⟨_, _, rfl⟩
  · exact ⟨_, _, rfl⟩

end Go.Proofs.YtapcblibokkhcaaDoor
