/- Contacts: the program's contracts (a contact; two lists compared). -/
import Derived.Test.YtkdidplpnhokiaaAt
import Derived.Test.YtkdidplpnhokiaaRows2
import Derived.Test.YtkdidplpnhokiaaNetM
namespace Go.Proofs.Ytkdidplpnhokiaa
open Go.RowKit
set_option linter.unusedVariables false

/-! ### two lists compared -/
theorem isNaN_any (x : Int) (w : World) : Calls Try.prog 138 #[.int .i64 x] w fun e w' => e = .returned (.bool false) ∧ w = w' := by
  go_enter Try.func138, Try.ntmps138
  go_wp2
  go_ret
  exact ⟨by simp, rfl⟩
/-- two numbers compared -/
def cmpZ (x y : Int) : Int := if x < y then -1 else if y < x then 1 else 0
theorem cmpZ_any (x y : Int) (w : World) : Calls Try.prog 116 #[.int .i64 x, .int .i64 y] w fun e w' => e = .returned (.int .i64 (cmpZ x y)) ∧ w = w' := by
  by_cases h1 : x < y
  · have hr : Hid (cmpZ x y = -1) := by unfold Hid cmpZ; rw [if_pos h1]
    go_enter Try.func116, Try.ntmps116
    go_wp2_with (go_at_call 138; (with_reducible refine (isNaN_any _ _).mono ?_); rintro e w' ⟨rfl, rfl⟩)
    go_ret
    exact ⟨by rw [hr.out]; rfl, rfl⟩
  · by_cases h2 : y < x
    · have hr : Hid (cmpZ x y = 1) := by unfold Hid cmpZ; rw [if_neg h1, if_pos h2]
      go_enter Try.func116, Try.ntmps116
      go_wp2_with (go_at_call 138; (with_reducible refine (isNaN_any _ _).mono ?_); rintro e w' ⟨rfl, rfl⟩)
      go_ret
      exact ⟨by rw [hr.out]; rfl, rfl⟩
    · have hr : Hid (cmpZ x y = 0) := by unfold Hid cmpZ; rw [if_neg h1, if_neg h2]
      go_enter Try.func116, Try.ntmps116
      go_wp2_with (go_at_call 138; (with_reducible refine (isNaN_any _ _).mono ?_); rintro e w' ⟨rfl, rfl⟩)
      go_ret
      exact ⟨by rw [hr.out]; rfl, rfl⟩

end Go.Proofs.Ytkdidplpnhokiaa
