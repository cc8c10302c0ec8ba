/- impl.tableFrom: a table built row by row. -/
import Derived.Test.YtlcfecccpbeofabDoorAt
import Derived.LoopTactic
import Derived.Deep.RegionHeld3
import Derived.Deep.DeepCutAuto
import Derived.Deep.RegionWith
namespace Go.Proofs.YtlcfecccpbeofabDoor
open Go.RowKit
set_option linter.unusedVariables false

/-- the number of Go whose digits f tells -/
def buildZ (f : Nat → Nat) (k : Nat) : Int := ((build f k : Nat) : Int)
theorem buildZ_bd (f : Nat → Nat) {k : Nat} (h : k ≤ 32) : 0 ≤ buildZ f k ∧ buildZ f k < 4294967296 := by
  have h1 := build_lt f k
  have h2 : 2 ^ k ≤ 2 ^ 32 := Nat.pow_le_pow_right (by decide) h
  unfold buildZ; omega

/-- one row more -/
theorem build_step (v : Int) (f : Nat → Nat) (k : Nat) (hk : k < 32) :
    bits .or .i64 (buildZ (fun j => dig v.toNat (f j)) k) (wrap64 (digZ v (f k : Int) * 2 ^ k)) = buildZ (fun j => dig v.toNat (f j)) (k + 1) := by
  have hb := build_lt (fun j => dig v.toNat (f j)) k
  have hp : 2 ^ k < 2 ^ 32 := Nat.pow_lt_pow_right (by decide) hk
  have hd := dig_lt v.toNat (f k)
  have e : digZ v (f k : Int) * 2 ^ k = ((dig v.toNat (f k) * 2 ^ k : Nat) : Int) := by
    unfold digZ; rw [Int.toNat_natCast]; simp
  have hm : dig v.toNat (f k) * 2 ^ k < 2 ^ 33 := by
    have : dig v.toNat (f k) * 2 ^ k ≤ 1 * 2 ^ k := Nat.mul_le_mul_right _ (by omega)
    omega
  rw [e, IntWalk.wrap64_in _ (by omega)]
  unfold buildZ
  rw [i64_or _ _ (by omega) (by omega)]
  have := build_or (fun j => dig v.toNat (f j)) k
  simp only [dig_mod] at this
  rw [this]

end Go.Proofs.YtlcfecccpbeofabDoor
