/- Values in rows, and numbers in a range: contracts. -/
import Derived.Test.YtapcblibokkhcaaDoorBase
namespace Go.Proofs.YtapcblibokkhcaaDoor
open Go.RowKit
set_option linter.unusedVariables false

theorem tab_bd {n v : Int} (h : isTab n v = true) : 1 ≤ n ∧ n ≤ 5 ∧ 0 ≤ v ∧ v < 9223372036854775808 := by
  obtain ⟨a, b, c, d⟩ := isTab_out h
  have := fullZ_bd a b
  omega

theorem valueAt_any (n v k : Int) (w : World) (h0 : 0 ≤ v) (hx : v < 9223372036854775808) (k0 : 0 ≤ k) (k6 : k ≤ 62) :
    Calls Tryd.prog 30 #[.agg #[.int .i64 n, .int .i64 v], .int .i64 k] w fun e w' => e = .returned (.int .i64 (digZ v k)) ∧ Below w.heap.size w w' := by
  go_enter Tryd.func30, Tryd.ntmps30
  go_wp2_with (go_at_call 51; refine (digitAt_any _ _ _ (by omega) (by omega) (by omega) (by omega)).mono ?_; rintro e w' ⟨rfl, rfl⟩)
  go_ret
  exact ⟨rfl, by go_grown⟩

theorem l01At_any (n v k : Int) (w : World) (h0 : 0 ≤ v) (hx : v < 9223372036854775808) (k0 : 0 ≤ k) (k6 : k ≤ 62) :
    Calls Tryd.prog 43 #[.agg #[.int .i64 n, .int .i64 v], .int .i64 k] w fun e w' => e = .returned (.int .i64 (digZ v k)) ∧ Below w.heap.size w w' := by
  have hd := digit_walk v k h0 hx k0
  have Hd := Lib.hid hd
  clear hd
  go_enter Tryd.func43, Tryd.ntmps43
  go_wp2
  go_ret
  exact ⟨by simp [Hd.out], by go_grown⟩

theorem isTable_b (n v : Int) (w : World) {b : Bool} (h : isTab n v = b) :
    Calls Tryd.prog 27 #[.agg #[.int .i64 n, .int .i64 v]] w fun e w' => e = .returned (.bool b) ∧ Below w.heap.size w w' := by
  have := isTable_any n v w
  rwa [h] at this
theorem l01Is_b (n v : Int) (w : World) {b : Bool} (h : isTab n v = b) :
    Calls Tryd.prog 25 #[.agg #[.int .i64 n, .int .i64 v]] w fun e w' => e = .returned (.bool b) ∧ Below w.heap.size w w' := by
  have := l01Is_any n v w
  rwa [h] at this

end Go.Proofs.YtapcblibokkhcaaDoor
