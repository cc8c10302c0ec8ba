/- Networks copied, weighed, compared. -/
import Derived.Test.YtbliibcfnfgdmaaDoorOwn2
import Derived.Deep.RegionWith
namespace Go.Proofs.YtbliibcfnfgdmaaDoor
open Go.RowKit
set_option linter.unusedVariables false

end Go.Proofs.YtbliibcfnfgdmaaDoor
