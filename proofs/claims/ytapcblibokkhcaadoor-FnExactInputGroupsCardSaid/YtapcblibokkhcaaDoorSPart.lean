/- The part of a table for an input and a value: the model's. -/
import Derived.Test.YtapcblibokkhcaaDoorPart
namespace Go.Proofs.YtapcblibokkhcaaDoor
open Go.RowKit
set_option linter.unusedVariables false

theorem wrapW (x : Int) : IntKind.i64.wrap x = wrap64 x := IntWalk.i64_left x
theorem u64_in {x : Int} (h0 : 0 ≤ x) (h1 : x ≤ 63) : IntKind.u64.wrap x = x := IntWalk.u64_in _ (by omega)

/-- one row more, the row as a number of Go -/
theorem build_stepZ (v : Int) (f : Nat → Nat) (k : Nat) (r : Int) (hk : k < 32) (hr : 0 ≤ r) (e : f k = r.toNat) :
    bits .or .i64 (buildZ (fun j => dig v.toNat (f j)) k) (wrap64 (digZ v r * 2 ^ k)) = buildZ (fun j => dig v.toNat (f j)) (k + 1) := by
  have h := build_step v f k hk
  rw [e, Int.toNat_of_nonneg hr] at h
  exact h

end Go.Proofs.YtapcblibokkhcaaDoor
