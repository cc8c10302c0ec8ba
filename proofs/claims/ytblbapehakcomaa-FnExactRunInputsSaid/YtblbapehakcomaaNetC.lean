/- Contacts: the program's contracts (a contact; two lists compared). -/
import Derived.Test.YtblbapehakcomaaAt
import Derived.Test.YtblbapehakcomaaRows2
import Derived.Test.YtblbapehakcomaaNetM
namespace Go.Proofs.Ytblbapehakcomaa
open Go.RowKit
set_option linter.unusedVariables false

/-! ### two lists compared -/
theorem isNaN_any (x : Int) (w : World) : Calls Try.prog 131 #[.int .i64 x] w fun e w' => e = .returned (.bool false) ∧ w = w' := by
  go_enter Try.func131, Try.ntmps131
  go_wp2
  go_ret
  exact ⟨by simp, rfl⟩
/-- two numbers compared -/
def cmpZ (x y : Int) : Int := if x < y then -1 else if y < x then 1 else 0


end Go.Proofs.Ytblbapehakcomaa
