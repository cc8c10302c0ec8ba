/- Numbers built digit by digit, as numbers of Go. -/
import Derived.Test.YtapcblibokkhcaaDoorTf
namespace Go.Proofs.YtapcblibokkhcaaDoor
open Go.RowKit

theorem build_stepG (F : Nat → Nat) (k : Nat) (hk : k < 32) (hF : F k < 2) : bits .or .i64 (buildZ F k) (wrap64 ((F k : Int) * 2 ^ k)) = buildZ F (k + 1) := by
  have hb := build_lt F k
  have hp : 2 ^ k < 2 ^ 32 := Nat.pow_lt_pow_right (by decide) hk
  have e : (F k : Int) * 2 ^ k = ((F k * 2 ^ k : Nat) : Int) := by simp
  have hm : F k * 2 ^ k < 2 ^ 33 := by
    have : F k * 2 ^ k ≤ 1 * 2 ^ k := Nat.mul_le_mul_right _ (by omega)
    omega
  have e2 : F k % 2 = F k := by omega
  rw [e, IntWalk.wrap64_in _ (by omega)]
  unfold buildZ
  rw [i64_or _ _ (by omega) (by omega)]
  have := build_or F k
  rw [e2] at this
  rw [this]
theorem build_step1 (F : Nat → Nat) (k : Nat) (hk : k < 32) (hF : F k = 1) : bits .or .i64 (buildZ F k) (wrap64 (2 ^ k)) = buildZ F (k + 1) := by
  have h := build_stepG F k hk (by omega)
  rw [hF] at h
  simpa using h
theorem build_step0 (F : Nat → Nat) (k : Nat) (hF : F k = 0) : buildZ F (k + 1) = buildZ F k := by
  unfold buildZ; simp [build, hF]

theorem wrapI' (x : Int) : IntKind.i64.wrap x = wrap64 x := (IntWalk.i64_left x).symm ▸ rfl
end Go.Proofs.YtapcblibokkhcaaDoor
