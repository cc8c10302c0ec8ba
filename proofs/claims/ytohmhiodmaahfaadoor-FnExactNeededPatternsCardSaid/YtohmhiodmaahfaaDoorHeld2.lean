/- Slices of slices looked at again. -/
import Derived.Test.YtohmhiodmaahfaaDoorMark2
namespace Go.Proofs.YtohmhiodmaahfaaDoor
open Go.RowKit
set_option linter.unusedVariables false

end Go.Proofs.YtohmhiodmaahfaaDoor
