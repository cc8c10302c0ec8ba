/- The table of a formula (plain mathematics). -/
import Derived.Test.YtohmhiodmaahfaaLtM
import Derived.Test.YtohmhiodmaahfaaFmS
import Derived.Test.YtohmhiodmaahfaaFvI
namespace Go.Proofs.Ytohmhiodmaahfaa
open Go.RowKit
set_option linter.unusedVariables false

def vN (t : Fm) (j : Nat) : Nat := if valF (leafV (digZ (j : Int))) t then 1 else 0
/-- the values in the first k rows -/
def tabTo (t : Fm) (k : Nat) : Int := ((build (vN t) k : Nat) : Int)
theorem vN_mod (t : Fm) (j : Nat) : vN t j % 2 = vN t j := by unfold vN; split <;> rfl
theorem tabTo_step (t : Fm) (k : Nat) (hk : k < 32) : bits .or .i64 (tabTo t k) (wrap64 (b2i (valF (leafV (digZ (k : Int))) t) * 2 ^ k)) = tabTo t (k + 1) := by
  have hb := build_lt (vN t) k
  have hp : 2 ^ k < 2 ^ 32 := Nat.pow_lt_pow_right (by decide) hk
  have e : b2i (valF (leafV (digZ (k : Int))) t) * 2 ^ k = ((vN t k * 2 ^ k : Nat) : Int) := by
    unfold b2i vN; split <;> simp
  have hm : vN t k * 2 ^ k < 2 ^ 33 := by
    have : vN t k * 2 ^ k ≤ 1 * 2 ^ k := Nat.mul_le_mul_right _ (by unfold vN; split <;> omega)
    omega
  rw [e, IntWalk.wrap64_in _ (by omega)]
  unfold tabTo
  rw [i64_or _ _ (by omega) (by omega)]
  have := build_or (vN t) k
  rw [vN_mod] at this
  rw [this]
theorem tabTo_one {t : Fm} {k : Nat} (hk : k < 32) (h : valF (leafV (digZ (k : Int))) t = true) : bits .or .i64 (tabTo t k) (wrap64 (2 ^ k)) = tabTo t (k + 1) := by
  have := tabTo_step t k hk
  rw [h] at this
  simpa [b2i] using this
theorem tabTo_zero {t : Fm} {k : Nat} (h : valF (leafV (digZ (k : Int))) t = false) : tabTo t (k + 1) = tabTo t k := by
  unfold tabTo
  have e : build (vN t) (k + 1) = build (vN t) k := by
    rw [← build_or, vN_mod]
    have : vN t k = 0 := by unfold vN; rw [h]; rfl
    rw [this]; simp
  rw [e]

/-- what TableOfFormula gives: the inputs, the values, the error -/
def tof (s : ByteArray) (n : Int) : Int × Int × Int := match fmOf s with
  | none => (0, 0, 6)
  | some t => if inTo s s.size ≤ n ∧ n ≤ 5 then (n, tabTo t (2 ^ n.toNat), 0) else (0, 0, 2)
theorem tof_none {s : ByteArray} (h : fmOf s = none) (n : Int) : tof s n = (0, 0, 6) := by unfold tof; rw [h]
theorem tof_out {s : ByteArray} {t : Fm} (h : fmOf s = some t) {n : Int} (hn : ¬ (inTo s s.size ≤ n ∧ n ≤ 5)) : tof s n = (0, 0, 2) := by unfold tof; rw [h]; exact if_neg hn
theorem tof_in {s : ByteArray} {t : Fm} (h : fmOf s = some t) {n : Int} (hn : inTo s s.size ≤ n ∧ n ≤ 5) : tof s n = (n, tabTo t (2 ^ n.toNat), 0) := by unfold tof; rw [h]; exact if_pos hn
def resTableOfFormula_0n (s : ByteArray) (n : Int) : Int := (tof s n).1
def resTableOfFormula_0m (s : ByteArray) (n : Int) : Int := (tof s n).2.1
def resTableOfFormula_1 (s : ByteArray) (n : Int) : Int := (tof s n).2.2

end Go.Proofs.Ytohmhiodmaahfaa
