/- IsNetwork: the program's. -/
import Derived.Test.YtkdidplpnhokiaaCmp
namespace Go.Proofs.Ytkdidplpnhokiaa
open Go.RowKit
set_option linter.unusedVariables false

theorem net_false {p : Int} {xss : List (List Int)} {j : Nat} (hj : j < xss.length) (hb : ¬ okC p xss j) : decide (Net p xss) = false :=
  decide_eq_false fun h => hb (h.2.2.2 j hj)

end Go.Proofs.Ytkdidplpnhokiaa
