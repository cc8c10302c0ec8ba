/- Networks copied, weighed, compared. -/
import Derived.Test.YtkdidplpnhokiaaOwn2
import Derived.Deep.RegionWith
namespace Go.Proofs.Ytkdidplpnhokiaa
open Go.RowKit
set_option linter.unusedVariables false

set_option maxHeartbeats 1000000 in
theorem eqNetwork_same (p : Int) (va vb : Value) (xss : List (List Int)) (w : World) (ha : Reads2 w va xss) (hb : Reads2 w vb xss) :
    Calls Try.prog 52 #[.agg #[.int .i64 p, va], .agg #[.int .i64 p, vb]] w fun e w' => e = .returned (.bool true) ∧ Below w.heap.size w w' := by
  have HA := Lib.hid (ha.keep (((Below.refl _ _).alloc (Nat.le_refl _) (.cells #[.int .i64 p, va] 61)).alloc (by simp) (.cells #[.int .i64 p, vb] 61)))
  have HB := Lib.hid (hb.keep (((Below.refl _ _).alloc (Nat.le_refl _) (.cells #[.int .i64 p, va] 61)).alloc (by simp) (.cells #[.int .i64 p, vb] 61)))
  obtain ⟨a, ca, rfl, _, _⟩ := ha
  obtain ⟨b, cb, rfl, _, _⟩ := hb
  go_enter Try.func52, Try.ntmps52
  go_wp2_with (go_at_call 46; (with_reducible refine (eqInt64SS_same _ _ xss _ HA.out HB.out).mono ?_); rintro e w' ⟨rfl, hb⟩; have hL := chain (B := w.heap.size) (a := w) (by go_grown) (Nat.le_refl _) hb; clear hb)
  go_ret
  exact ⟨rfl, hL⟩

end Go.Proofs.Ytkdidplpnhokiaa
