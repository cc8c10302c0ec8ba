/- IsNetwork: the model's. -/
import Derived.Test.YtibfenkaoaclfaaNet1
namespace Go.Proofs.Ytibfenkaoaclfaa
open Go.RowKit
set_option linter.unusedVariables false

end Go.Proofs.Ytibfenkaoaclfaa
