/- Sets of small numbers told by bits: plain mathematics. -/
import Derived.Test.YtkdidplpnhokiaaMath
namespace Go.Proofs.Ytkdidplpnhokiaa
open Go.RowKit

/-- the places below k whose digit is 1 -/
def onesTo (v : Int) (k : Nat) : List Int := ((List.range k).filter fun j => dig v.toNat j == 1).map fun (j : Nat) => (j : Int)
theorem onesTo_hit (v : Int) (k : Nat) (h : dig v.toNat k = 1) : onesTo v (k + 1) = onesTo v k ++ [(k : Int)] := by
  simp [onesTo, List.range_succ, h]
theorem onesTo_miss (v : Int) (k : Nat) (h : dig v.toNat k ≠ 1) : onesTo v (k + 1) = onesTo v k := by
  simp [onesTo, List.range_succ, h]
theorem onesTo_len (v : Int) (k : Nat) : (onesTo v k).length ≤ k := by
  have := List.length_filter_le (fun j => dig v.toNat j == 1) (List.range k)
  simpa [onesTo] using this
theorem div_nat {s : Int} (h0 : 0 ≤ s) (k : Nat) : s / 2 ^ k = ((s.toNat / 2 ^ k : Nat) : Int) := by
  obtain ⟨S, rfl⟩ := Int.eq_ofNat_of_zero_le h0
  rw [Int.toNat_natCast]; simp
theorem div_big {s : Int} {k : Nat} (h0 : 0 ≤ s) (hs : s < 4611686018427387904) (hk : 62 ≤ k) : s / 2 ^ k = 0 := by
  rw [div_nat h0]
  have : s.toNat < 2 ^ k := Nat.lt_of_lt_of_le (by omega : s.toNat < 2 ^ 62) (Nat.pow_le_pow_right (by decide) hk)
  rw [Nat.div_eq_of_lt this]; rfl
theorem onesTo_rest {s : Int} {k m : Nat} (h0 : 0 ≤ s) (hk : k ≤ m) (h : s / 2 ^ k = 0) : onesTo s k = onesTo s m := by
  rw [div_nat h0] at h
  have hlt : s.toNat < 2 ^ k := by
    have h1 : s.toNat / 2 ^ k = 0 := by omega
    rcases Nat.div_eq_zero_iff.1 h1 with h | h
    · have := Nat.pos_of_ne_zero (show 2 ^ k ≠ 0 by simp); omega
    · exact h
  induction m with
  | zero => have : k = 0 := by omega
            subst this; rfl
  | succ m ih =>
    rcases Nat.lt_or_ge k (m + 1) with h1 | h1
    · rw [ih (by omega), onesTo_miss]
      have : s.toNat < 2 ^ m := Nat.lt_of_lt_of_le hlt (Nat.pow_le_pow_right (by decide) (by omega))
      unfold dig
      rw [Nat.div_eq_of_lt this]; decide
    · have : k = m + 1 := by omega
      subst this; rfl

/-- the set of the places j below k with f j -/
def setOf (f : Nat → Bool) (k : Nat) : Nat := build (fun j => (f j).toNat) k
theorem setOf_lt (f : Nat → Bool) (k : Nat) : setOf f k < 2 ^ k := build_lt _ _
theorem setOf_dig (f : Nat → Bool) {k j : Nat} (h : j < k) : dig (setOf f k) j = (f j).toNat := by
  unfold setOf; rw [build_dig _ h]; cases f j <;> rfl
theorem setOf_hit (f : Nat → Bool) (k : Nat) (h : f k = true) : setOf f k ||| 2 ^ k = setOf f (k + 1) := by
  have := build_or (fun j => (f j).toNat) k
  unfold setOf
  rw [← this, h]; simp
theorem setOf_miss (f : Nat → Bool) (k : Nat) (h : f k = false) : setOf f (k + 1) = setOf f k := by
  unfold setOf; simp [build, h]
theorem pow_walk (k : Nat) (h : k ≤ 62) : wrap64 (2 ^ k) = ((2 ^ k : Nat) : Int) := by
  have h1 : (2 : Nat) ^ k ≤ 2 ^ 62 := Nat.pow_le_pow_right (by decide) h
  have e : ((2 : Int) ^ k) = ((2 ^ k : Nat) : Int) := by simp
  rw [e]
  generalize 2 ^ k = q at *
  unfold wrap64
  omega
/-- 's | 1 << k' -/
theorem or_walk (s : Nat) (k : Nat) (hs : s < 2 ^ 62) (h : k ≤ 61) : bits .or .i64 (s : Int) (wrap64 (2 ^ k)) = ((s ||| 2 ^ k : Nat) : Int) := by
  rw [pow_walk k (by omega)]
  have h1 : (2 : Nat) ^ k ≤ 2 ^ 61 := Nat.pow_le_pow_right (by decide) h
  exact i64_or s (2 ^ k) (by omega) (by omega)

end Go.Proofs.Ytkdidplpnhokiaa
