/- Slices of slices looked at again. -/
import Derived.Test.YthomnhbkmopjnaaMark2
namespace Go.Proofs.Ythomnhbkmopjnaa
open Go.RowKit
set_option linter.unusedVariables false

end Go.Proofs.Ythomnhbkmopjnaa
