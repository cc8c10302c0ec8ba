/- Networks copied, weighed, compared. -/
import Derived.Test.YtohmhiodmaahfaaDoorOwn2
import Derived.Deep.RegionWith
namespace Go.Proofs.YtohmhiodmaahfaaDoor
open Go.RowKit
set_option linter.unusedVariables false

end Go.Proofs.YtohmhiodmaahfaaDoor
