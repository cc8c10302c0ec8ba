/- What IsSymmetric gives. -/
import Derived.Test.YtapcblibokkhcaaDoorAlB
namespace Go.Proofs.YtapcblibokkhcaaDoor
open Go.RowKit

def resIsSymmetric_0 (n v : Int) : Bool := isTab n v && symB v n.toNat
def resIsSymmetric_1 (n v : Int) : Int := if isTab n v then 0 else 1

end Go.Proofs.YtapcblibokkhcaaDoor
