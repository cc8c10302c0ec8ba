/- A network of the call's own looked at again. -/
import Derived.Test.YtnlcnbkookmfaaaHeld2
import Derived.Test.YtnlcnbkookmfaaaNetX
import Derived.Test.YtnlcnbkookmfaaaIn
namespace Go.Proofs.Ytnlcnbkookmfaaa
open Go.RowKit
set_option linter.unusedVariables false

end Go.Proofs.Ytnlcnbkookmfaaa
