/- Networks copied, weighed, compared. -/
import Derived.Test.YtnlcnbkookmfaaaOwn2
import Derived.Deep.RegionWith
namespace Go.Proofs.Ytnlcnbkookmfaaa
open Go.RowKit
set_option linter.unusedVariables false

end Go.Proofs.Ytnlcnbkookmfaaa
