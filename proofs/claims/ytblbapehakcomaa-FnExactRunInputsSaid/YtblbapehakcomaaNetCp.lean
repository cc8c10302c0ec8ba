/- Networks copied, weighed, compared. -/
import Derived.Test.YtblbapehakcomaaOwn2
import Derived.Deep.RegionWith
namespace Go.Proofs.Ytblbapehakcomaa
open Go.RowKit
set_option linter.unusedVariables false

end Go.Proofs.Ytblbapehakcomaa
