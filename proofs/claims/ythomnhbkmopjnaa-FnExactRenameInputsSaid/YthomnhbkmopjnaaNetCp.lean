/- Networks copied, weighed, compared. -/
import Derived.Test.YthomnhbkmopjnaaOwn2
import Derived.Deep.RegionWith
namespace Go.Proofs.Ythomnhbkmopjnaa
open Go.RowKit
set_option linter.unusedVariables false

end Go.Proofs.Ythomnhbkmopjnaa
