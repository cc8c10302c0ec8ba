/- Slices of slices looked at again. -/
import Derived.Test.YtglbndobbmgjmaaDoorMark2
namespace Go.Proofs.YtglbndobbmgjmaaDoor
open Go.RowKit
set_option linter.unusedVariables false

end Go.Proofs.YtglbndobbmgjmaaDoor
