/- l02Is with its answer told. -/
import Derived.Test.YtnmjdphibphpnaaSNet
namespace Go.Proofs.Ytnmjdphibphpnaa
open Go.RowKit
theorem l02Is_b (p : Int) (v : Value) (xss : List (List Int)) (w : World) (ha : Reads2 w v xss) {b : Bool} (hb : decide (Net p xss) = b) :
    Calls Try.prog 45 #[.agg #[.int .i64 p, v]] w fun e w' => e = .returned (.bool b) ∧ Below w.heap.size w w' := by
  have := l02Is_any p v xss w ha
  rwa [hb] at this

end Go.Proofs.Ytnmjdphibphpnaa
