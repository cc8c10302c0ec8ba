/- Small laws for the walks of the laws of networks. -/
import Derived.Test.YtkdidplpnhokiaaMark2
import Derived.Test.YtkdidplpnhokiaaNetB
namespace Go.Proofs.Ytkdidplpnhokiaa
open Go.RowKit
set_option linter.unusedVariables false

theorem own2At {w w' : World} {B C : Nat} {v : Value} {xss : List (List Int)} (hb : Below w.heap.size w w') (h : Own2 w B C v xss) : Own2 w' B C v xss := h.keep hb


end Go.Proofs.Ytkdidplpnhokiaa
