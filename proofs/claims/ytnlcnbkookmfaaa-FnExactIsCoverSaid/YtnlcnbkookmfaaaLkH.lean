/- Small laws for the walks of laws of charts. -/
import Derived.Test.YtnlcnbkookmfaaaCha
namespace Go.Proofs.Ytnlcnbkookmfaaa
open Go.RowKit
set_option linter.unusedVariables false

theorem inAt {w w' : World} {lo hi : Nat} {v : Value} {xs : List Int} (hb : Below w.heap.size w w') (h : In w lo hi v xs) : In w' lo hi v xs := h.keep hb

end Go.Proofs.Ytnlcnbkookmfaaa
