/- Slices of slices looked at again. -/
import Derived.Test.YtkojdaafgbfioaaDoorMark2
namespace Go.Proofs.YtkojdaafgbfioaaDoor
open Go.RowKit
set_option linter.unusedVariables false

end Go.Proofs.YtkojdaafgbfioaaDoor
