/- IsFormula: both contracts. -/
import Derived.Test.YtgpbamhaooddcaaRfA
namespace Go.Proofs.Ytgpbamhaooddcaa
open Go.RowKit
set_option linter.unusedVariables false

def resIsFormula_0 (s : ByteArray) : Bool := (fmOf s).isSome
theorem iIsFormula_any (s : ByteArray) (hs : s.size ≤ 1048576) (w : World) :
    Calls Try.prog 13 #[.string s] w fun e w' => e = .returned (.bool (resIsFormula_0 s)) ∧ Below w.heap.size w w' := iIsFormula_any' s w
theorem sIsFormula_any (s : ByteArray) (hs : s.size ≤ 1048576) (w : World) :
    Calls Try.prog 12 #[.string s] w fun e w' => e = .returned (.bool (resIsFormula_0 s)) ∧ Below w.heap.size w w' := sIsFormula_any' s hs w

end Go.Proofs.Ytgpbamhaooddcaa
