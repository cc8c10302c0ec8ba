/- Networks copied, weighed, compared. -/
import Derived.Test.YtohmhiodmaahfaaOwn2
import Derived.Deep.RegionWith
namespace Go.Proofs.Ytohmhiodmaahfaa
open Go.RowKit
set_option linter.unusedVariables false

end Go.Proofs.Ytohmhiodmaahfaa
