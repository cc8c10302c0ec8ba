/- A network of the call's own looked at again. -/
import Derived.Test.YtglbndobbmgjmaaDoorHeld2
import Derived.Test.YtglbndobbmgjmaaDoorNetX
import Derived.Test.YtglbndobbmgjmaaDoorIn
namespace Go.Proofs.YtglbndobbmgjmaaDoor
open Go.RowKit
set_option linter.unusedVariables false

end Go.Proofs.YtglbndobbmgjmaaDoor
