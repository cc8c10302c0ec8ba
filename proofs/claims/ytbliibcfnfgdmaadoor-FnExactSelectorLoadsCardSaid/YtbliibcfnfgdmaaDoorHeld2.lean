/- Slices of slices looked at again. -/
import Derived.Test.YtbliibcfnfgdmaaDoorMark2
namespace Go.Proofs.YtbliibcfnfgdmaaDoor
open Go.RowKit
set_option linter.unusedVariables false

end Go.Proofs.YtbliibcfnfgdmaaDoor
