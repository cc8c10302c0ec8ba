/- Small laws for the walks of laws with slices of slices, without networks. -/
import Derived.Test.YtkojdaafgbfioaaDoorHeld2
import Derived.Test.YtkojdaafgbfioaaDoorIn
namespace Go.Proofs.YtkojdaafgbfioaaDoor
open Go.RowKit
set_option linter.unusedVariables false

theorem In.monoI {w : World} {B C B' C' : Nat} {v : Value} {xs : List Int} (h : In w B C v xs) (hB : B' ≤ B) (hC : C ≤ C') : In w B' C' v xs := h.wide hB hC
theorem Owns.inAll {w : World} {B : Nat} {v : Value} {xs : List Int} (h : Owns w B v xs) : In w B w.heap.size v xs := In.of h (Nat.le_refl _) (Nat.le_refl _)

end Go.Proofs.YtkojdaafgbfioaaDoor
