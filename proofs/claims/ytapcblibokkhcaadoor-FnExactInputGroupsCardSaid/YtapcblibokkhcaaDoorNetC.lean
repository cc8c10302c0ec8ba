/- Contacts: the program's contracts (a contact; two lists compared). -/
import Derived.Test.YtapcblibokkhcaaDoorAt
import Derived.Test.YtapcblibokkhcaaDoorRows2
import Derived.Test.YtapcblibokkhcaaDoorNetM
namespace Go.Proofs.YtapcblibokkhcaaDoor
open Go.RowKit
set_option linter.unusedVariables false

/-! ### two lists compared -/
/-- two numbers compared -/
def cmpZ (x y : Int) : Int := if x < y then -1 else if y < x then 1 else 0


end Go.Proofs.YtapcblibokkhcaaDoor
