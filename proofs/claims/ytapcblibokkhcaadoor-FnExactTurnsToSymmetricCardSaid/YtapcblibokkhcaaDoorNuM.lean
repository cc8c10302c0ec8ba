/- The numbers of a symmetric table: mathematics, and what NumbersOf gives. -/
import Derived.Test.YtapcblibokkhcaaDoorAlB
import Derived.Test.YtapcblibokkhcaaDoorSymM
namespace Go.Proofs.YtapcblibokkhcaaDoor
open Go.RowKit
set_option linter.unusedVariables false

/-- the value in the first row with so many ones -/
def numD (v : Int) (k : Nat) : Nat := dig v.toNat (2 ^ k - 1)
/-- the numbers below b, as a set -/
def numS (v : Int) (b : Nat) : Int := buildZ (fun k => dig v.toNat (2 ^ k - 1)) b
theorem numS_dig {v : Int} {b k : Nat} (h : k < b) : dig (numS v b).toNat k = numD v k := by
  unfold numS buildZ numD
  rw [Int.toNat_natCast, build_dig _ h, dig_mod]
def numL (v : Int) (N : Nat) : List Int := onesTo (numS v (N + 1)) (N + 1)
theorem numL_all (v : Int) {N m : Nat} (hm : N + 1 ≤ m) : onesTo (numS v (N + 1)) m = numL v N := by
  unfold numL numS buildZ
  exact onesTo_high (build_lt _ _) hm
theorem numL_hit (v : Int) {N k : Nat} (hk : k < N + 1) (h : numD v k = 1) : onesTo (numS v (N + 1)) (k + 1) = onesTo (numS v (N + 1)) k ++ [(k : Int)] :=
  onesTo_hit _ _ (by rw [numS_dig hk]; exact h)
theorem numL_miss (v : Int) {N k : Nat} (hk : k < N + 1) (h : numD v k ≠ 1) : onesTo (numS v (N + 1)) (k + 1) = onesTo (numS v (N + 1)) k :=
  onesTo_miss _ _ (by rw [numS_dig hk]; exact h)
theorem numS_bd (v : Int) {b : Nat} (h : b ≤ 32) : 0 ≤ numS v b ∧ numS v b < 4294967296 := buildZ_bd _ h
theorem two_wrap5 {k : Nat} (h : k ≤ 5) : wrap64 (2 ^ k) = ((2 ^ k : Nat) : Int) := by
  have : ∀ i : Fin 6, wrap64 (2 ^ i.val) = ((2 ^ i.val : Nat) : Int) := by decide +kernel
  exact this ⟨k, by omega⟩
theorem numS_step (v : Int) {k W : Nat} (hk : k < 32) (hW : 2 ^ k = W) (h1 : 1 ≤ W) : bits .or .i64 (numS v k) (wrap64 (digZ v ((W : Int) - 1) * 2 ^ k)) = numS v (k + 1) := by
  have h := build_step v (fun k => 2 ^ k - 1) k hk
  have e : (((2 ^ k - 1 : Nat)) : Int) = (W : Int) - 1 := by rw [hW]; omega
  rw [e] at h
  exact h
theorem numD_dig (v : Int) {k W : Nat} (hW : 2 ^ k = W) (h1 : 1 ≤ W) : digZ v ((W : Int) - 1) = (numD v k : Int) := by
  unfold digZ numD
  have e : ((W : Int) - 1).toNat = 2 ^ k - 1 := by omega
  rw [e]

def resNumbersOf_0 (n v : Int) : List Int := if isTab n v && symB v n.toNat then numL v n.toNat else []
def resNumbersOf_1 (n v : Int) : Int := if isTab n v then (if symB v n.toNat then 0 else 5) else 1
theorem lenNumbersOf_0 (n v : Int) : (resNumbersOf_0 n v).length ≤ 1000 := by
  unfold resNumbersOf_0
  split
  · rename_i h
    rw [Bool.and_eq_true] at h
    obtain ⟨n1, n5, _, _⟩ := isTab_out h.1
    have := onesTo_len (numS v (n.toNat + 1)) (n.toNat + 1)
    unfold numL; omega
  · simp

end Go.Proofs.YtapcblibokkhcaaDoor
