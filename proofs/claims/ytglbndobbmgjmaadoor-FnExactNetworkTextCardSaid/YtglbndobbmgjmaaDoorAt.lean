/- Values in rows, and numbers in a range: contracts. -/
import Derived.Test.YtglbndobbmgjmaaDoorBase
namespace Go.Proofs.YtglbndobbmgjmaaDoor
open Go.RowKit
set_option linter.unusedVariables false

theorem isBelow_yes (x l : Int) (w : World) (h : 0 ≤ x ∧ x < l) :
    Calls Tryd.prog 27 #[.int .i64 x, .int .i64 l] w fun e w' => e = .returned (.bool true) ∧ w = w' := by
  obtain ⟨h0, h1⟩ := h
  go_enter Tryd.func27, Tryd.ntmps27
  go_wp2
  go_ret
  exact ⟨by simp; try omega, rfl⟩
theorem isBelow_no (x l : Int) (w : World) (h : ¬ (0 ≤ x ∧ x < l)) :
    Calls Tryd.prog 27 #[.int .i64 x, .int .i64 l] w fun e w' => e = .returned (.bool false) ∧ w = w' := by
  by_cases h0 : 0 ≤ x
  · have h1 : l ≤ x := by omega
    clear h
    go_enter Tryd.func27, Tryd.ntmps27
    go_wp2
    go_ret
    exact ⟨by simp; try omega, rfl⟩
  · clear h
    go_enter Tryd.func27, Tryd.ntmps27
    go_wp2
    go_ret
    exact ⟨by simp; try omega, rfl⟩

theorem tab_bd {n v : Int} (h : isTab n v = true) : 1 ≤ n ∧ n ≤ 5 ∧ 0 ≤ v ∧ v < 9223372036854775808 := by
  obtain ⟨a, b, c, d⟩ := isTab_out h
  have := fullZ_bd a b
  omega

end Go.Proofs.YtglbndobbmgjmaaDoor
