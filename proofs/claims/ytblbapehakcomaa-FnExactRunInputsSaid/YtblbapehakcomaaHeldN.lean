/- A network of the call's own looked at again. -/
import Derived.Test.YtblbapehakcomaaHeld2
import Derived.Test.YtblbapehakcomaaNetX
import Derived.Test.YtblbapehakcomaaIn
namespace Go.Proofs.Ytblbapehakcomaa
open Go.RowKit
set_option linter.unusedVariables false

end Go.Proofs.Ytblbapehakcomaa
