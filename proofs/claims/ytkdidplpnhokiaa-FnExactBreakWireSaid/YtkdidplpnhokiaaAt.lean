/- Values in rows, and numbers in a range: contracts. -/
import Derived.Test.YtkdidplpnhokiaaBase
namespace Go.Proofs.Ytkdidplpnhokiaa
open Go.RowKit
set_option linter.unusedVariables false

theorem isBelow_yes (x l : Int) (w : World) (h : 0 ≤ x ∧ x < l) :
    Calls Try.prog 89 #[.int .i64 x, .int .i64 l] w fun e w' => e = .returned (.bool true) ∧ w = w' := by
  obtain ⟨h0, h1⟩ := h
  go_enter Try.func89, Try.ntmps89
  go_wp2
  go_ret
  exact ⟨by simp; try omega, rfl⟩
theorem isBelow_no (x l : Int) (w : World) (h : ¬ (0 ≤ x ∧ x < l)) :
    Calls Try.prog 89 #[.int .i64 x, .int .i64 l] w fun e w' => e = .returned (.bool false) ∧ w = w' := by
  by_cases h0 : 0 ≤ x
  · have h1 : l ≤ x := by omega
    clear h
    go_enter Try.func89, Try.ntmps89
    go_wp2
    go_ret
    exact ⟨by simp; try omega, rfl⟩
  · clear h
    go_enter Try.func89, Try.ntmps89
    go_wp2
    go_ret
    exact ⟨by simp; try omega, rfl⟩

theorem tab_bd {n v : Int} (h : isTab n v = true) : 1 ≤ n ∧ n ≤ 5 ∧ 0 ≤ v ∧ v < 9223372036854775808 := by
  obtain ⟨a, b, c, d⟩ := isTab_out h
  have := fullZ_bd a b
  omega

theorem valueAt_any (n v k : Int) (w : World) (h0 : 0 ≤ v) (hx : v < 9223372036854775808) (k0 : 0 ≤ k) (k6 : k ≤ 62) :
    Calls Try.prog 129 #[.agg #[.int .i64 n, .int .i64 v], .int .i64 k] w fun e w' => e = .returned (.int .i64 (digZ v k)) ∧ Below w.heap.size w w' := by
  go_enter Try.func129, Try.ntmps129
  go_wp2_with (go_at_call 75; refine (digitAt_any _ _ _ (by omega) (by omega) (by omega) (by omega)).mono ?_; rintro e w' ⟨rfl, rfl⟩)
  go_ret
  exact ⟨rfl, by go_grown⟩

theorem l01At_any (n v k : Int) (w : World) (h0 : 0 ≤ v) (hx : v < 9223372036854775808) (k0 : 0 ≤ k) (k6 : k ≤ 62) :
    Calls Try.prog 84 #[.agg #[.int .i64 n, .int .i64 v], .int .i64 k] w fun e w' => e = .returned (.int .i64 (digZ v k)) ∧ Below w.heap.size w w' := by
  have hd := digit_walk v k h0 hx k0
  have Hd := Lib.hid hd
  clear hd
  go_enter Try.func84, Try.ntmps84
  go_wp2
  go_ret
  exact ⟨by simp [Hd.out], by go_grown⟩

end Go.Proofs.Ytkdidplpnhokiaa
