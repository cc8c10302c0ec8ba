/- A network of the call's own looked at again. -/
import Derived.Test.YtapcblibokkhcaaDoorHeld2
import Derived.Test.YtapcblibokkhcaaDoorNetX
import Derived.Test.YtapcblibokkhcaaDoorIn
namespace Go.Proofs.YtapcblibokkhcaaDoor
open Go.RowKit
set_option linter.unusedVariables false

end Go.Proofs.YtapcblibokkhcaaDoor
