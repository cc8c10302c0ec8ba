/- Networks copied, weighed, compared. -/
import Derived.Test.YtapcblibokkhcaaDoorOwn2
import Derived.Deep.RegionWith
namespace Go.Proofs.YtapcblibokkhcaaDoor
open Go.RowKit
set_option linter.unusedVariables false

end Go.Proofs.YtapcblibokkhcaaDoor
