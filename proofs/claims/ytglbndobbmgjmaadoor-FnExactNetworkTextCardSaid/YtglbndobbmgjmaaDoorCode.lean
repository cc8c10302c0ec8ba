/- The errors of networks, rows and points: the model's. -/
import Derived.Test.YtglbndobbmgjmaaDoorSNet
import Derived.Test.YtglbndobbmgjmaaDoorClosedM
namespace Go.Proofs.YtglbndobbmgjmaaDoor
open Go.RowKit
set_option linter.unusedVariables false

theorem l02Is_b (p : Int) (v : Value) (xss : List (List Int)) (w : World) (ha : Reads2 w v xss) {b : Bool} (hb : decide (Net p xss) = b) :
    Calls Tryd.prog 10 #[.agg #[.int .i64 p, v]] w fun e w' => e = .returned (.bool b) ∧ Below w.heap.size w w' := by
  have := l02Is_any p v xss w ha
  rwa [hb] at this

end Go.Proofs.YtglbndobbmgjmaaDoor
