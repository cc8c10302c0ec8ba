/- Networks copied, weighed, compared. -/
import Derived.Test.YtkojdaafgbfioaaDoorOwn2
import Derived.Deep.RegionWith
namespace Go.Proofs.YtkojdaafgbfioaaDoor
open Go.RowKit
set_option linter.unusedVariables false

end Go.Proofs.YtkojdaafgbfioaaDoor
