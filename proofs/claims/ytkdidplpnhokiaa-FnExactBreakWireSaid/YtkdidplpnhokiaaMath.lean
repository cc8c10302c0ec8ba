/- Plain mathematics of tables of values: numbers read by their binary digits. No program in sight. -/
import Derived.WalkKit
import Derived.Laws.ShiftsVar
namespace Go.Proofs.Ytkdidplpnhokiaa
open Go.RowKit

/-- the number whose digit at each place j below k is f j (its last digit) -/
def build (f : Nat → Nat) : Nat → Nat
  | 0 => 0
  | k + 1 => build f k + f k % 2 * 2 ^ k

theorem build_lt (f : Nat → Nat) (k : Nat) : build f k < 2 ^ k := by
  induction k with
  | zero => simp [build]
  | succ k ih =>
    have h : f k % 2 ≤ 1 := by omega
    have h2 : f k % 2 * 2 ^ k ≤ 1 * 2 ^ k := Nat.mul_le_mul_right _ h
    simp only [build, Nat.pow_succ]; omega

theorem build_congr {f g : Nat → Nat} {k : Nat} (h : ∀ j, j < k → f j % 2 = g j % 2) : build f k = build g k := by
  induction k with
  | zero => rfl
  | succ k ih => simp only [build]; rw [ih fun j hj => h j (by omega), h k (by omega)]

theorem build_testBit (f : Nat → Nat) (k j : Nat) : (build f k).testBit j = (decide (j < k) && decide (f j % 2 = 1)) := by
  induction k with
  | zero => simp [build]
  | succ k ih =>
    have e : build f (k + 1) = 2 ^ k * (f k % 2) + build f k := by simp only [build]; rw [Nat.mul_comm]; omega
    rw [e, Nat.testBit_two_pow_mul_add _ (build_lt f k)]
    by_cases hj : j < k
    · simp only [hj, if_true]; rw [ih]; simp [hj, Nat.lt_succ_of_lt hj]
    · simp only [hj, if_false]
      by_cases e2 : j = k
      · subst e2
        have h01 : f j % 2 = 0 ∨ f j % 2 = 1 := by omega
        rcases h01 with h | h <;> simp [h]
      · have h3 : ¬ j < k + 1 := by omega
        have h4 : f k % 2 < 2 ^ (j - k) := Nat.lt_of_lt_of_le (Nat.mod_lt _ (by decide)) (by
          have : 2 ^ 1 ≤ 2 ^ (j - k) := Nat.pow_le_pow_right (by decide) (by omega)
          simpa using this)
        rw [Nat.testBit_lt_two_pow h4]; simp [h3]

/-- the digit of x at the place k -/
def dig (x k : Nat) : Nat := x / 2 ^ k % 2

theorem dig_lt (x k : Nat) : dig x k < 2 := by unfold dig; omega
theorem dig_mod (x k : Nat) : dig x k % 2 = dig x k := by unfold dig; omega
theorem dig_testBit (x k : Nat) : dig x k = (x.testBit k).toNat := by
  unfold dig
  rw [Nat.testBit_eq_decide_div_mod_eq]
  have : x / 2 ^ k % 2 = 0 ∨ x / 2 ^ k % 2 = 1 := by omega
  rcases this with h | h <;> simp [h]
theorem dig_one (x k : Nat) : dig x k % 2 = 1 ↔ x.testBit k = true := by
  rw [dig_testBit]; cases x.testBit k <;> simp

theorem build_dig (f : Nat → Nat) {k j : Nat} (h : j < k) : dig (build f k) j = f j % 2 := by
  rw [dig_testBit, build_testBit]
  have h01 : f j % 2 = 0 ∨ f j % 2 = 1 := by omega
  rcases h01 with e | e <;> simp [h, e]

/-- a number below 2^k is built of its digits -/
theorem build_self {x k : Nat} (h : x < 2 ^ k) : build (dig x) k = x := by
  apply Nat.eq_of_testBit_eq
  intro j
  rw [build_testBit]
  by_cases hj : j < k
  · simp only [hj, decide_true, Bool.true_and]
    have := dig_one x j
    cases hb : x.testBit j
    · rw [hb] at this; simpa using this
    · rw [hb] at this; simpa using this
  · have : x.testBit j = false := Nat.testBit_lt_two_pow (Nat.lt_of_lt_of_le h (Nat.pow_le_pow_right (by decide) (by omega)))
    simp [hj, this]

/-- two numbers below 2^k with the same digits -/
theorem dig_ext {x y k : Nat} (hx : x < 2 ^ k) (hy : y < 2 ^ k) (h : ∀ j, j < k → dig x j = dig y j) : x = y := by
  rw [← build_self hx, ← build_self hy]
  exact build_congr fun j hj => by rw [h j hj]

/-- one digit more is an 'or' -/
theorem build_or (f : Nat → Nat) (k : Nat) : build f k ||| f k % 2 * 2 ^ k = build f (k + 1) := by
  have := Nat.two_pow_add_eq_or_of_lt (build_lt f k) (f k % 2)
  rw [Nat.or_comm, Nat.mul_comm, ← this]
  simp only [build]; rw [Nat.mul_comm]; omega

theorem dig_and (x y k : Nat) : dig (x &&& y) k = dig x k * dig y k := by
  simp only [dig_testBit, Nat.testBit_and]; cases x.testBit k <;> cases y.testBit k <;> rfl
theorem dig_or (x y k : Nat) : dig (x ||| y) k = (dig x k + dig y k + 1) / 2 := by
  simp only [dig_testBit, Nat.testBit_or]; cases x.testBit k <;> cases y.testBit k <;> rfl
theorem dig_xor (x y k : Nat) : dig (x ^^^ y) k = (dig x k + dig y k) % 2 := by
  simp only [dig_testBit, Nat.testBit_xor]; cases x.testBit k <;> cases y.testBit k <;> rfl
theorem dig_full {n k : Nat} (h : k < n) : dig (2 ^ n - 1) k = 1 := by
  simp [dig_testBit, Nat.testBit_two_pow_sub_one, h]

/-- the opposite within n digits -/
theorem xor_full {x n : Nat} (h : x < 2 ^ n) : x ^^^ (2 ^ n - 1) = 2 ^ n - 1 - x := by
  apply Nat.eq_of_testBit_eq
  intro j
  rw [show 2 ^ n - 1 - x = 2 ^ n - (x + 1) by omega, Nat.testBit_two_pow_sub_succ h]
  simp only [Nat.testBit_xor, Nat.testBit_two_pow_sub_one]
  by_cases hi : j < n
  · simp [hi]
  · have : x.testBit j = false := Nat.testBit_lt_two_pow (Nat.lt_of_lt_of_le h (Nat.pow_le_pow_right (by decide) (by omega)))
    simp [this, hi]

/-! ### the model's operations on int64 at numbers of at least 0 -/
theorem ofInt_i64 (a : Nat) (ha : a < 9223372036854775808) : (BitVec.ofInt 64 (a : Int)).toNat = a := by
  rw [BitVec.ofInt_natCast, BitVec.toNat_ofNat]; exact Nat.mod_eq_of_lt (by omega)
theorem wrap_i64_nat (a : Nat) (ha : a < 9223372036854775808) : IntKind.i64.wrap (a : Int) = a := by
  rw [IntKind.wrap_i64]; omega
theorem i64_and (a b : Nat) (ha : a < 9223372036854775808) (hb : b < 9223372036854775808) : bits .and .i64 (a : Int) (b : Int) = ((a &&& b : Nat) : Int) := by
  have hx : a &&& b < 2 ^ 63 := Nat.and_lt_two_pow _ (by omega)
  show IntKind.i64.wrap ((BitVec.ofInt 64 (a : Int) &&& BitVec.ofInt 64 (b : Int)).toNat : Int) = _
  rw [BitVec.toNat_and, ofInt_i64 a ha, ofInt_i64 b hb]
  exact wrap_i64_nat _ (by omega)
theorem i64_or (a b : Nat) (ha : a < 9223372036854775808) (hb : b < 9223372036854775808) : bits .or .i64 (a : Int) (b : Int) = ((a ||| b : Nat) : Int) := by
  have hx : a ||| b < 2 ^ 63 := Nat.or_lt_two_pow (by omega) (by omega)
  show IntKind.i64.wrap ((BitVec.ofInt 64 (a : Int) ||| BitVec.ofInt 64 (b : Int)).toNat : Int) = _
  rw [BitVec.toNat_or, ofInt_i64 a ha, ofInt_i64 b hb]
  exact wrap_i64_nat _ (by omega)
theorem i64_xor (a b : Nat) (ha : a < 9223372036854775808) (hb : b < 9223372036854775808) : bits .xor .i64 (a : Int) (b : Int) = ((a ^^^ b : Nat) : Int) := by
  have hx : a ^^^ b < 2 ^ 63 := Nat.xor_lt_two_pow (by omega) (by omega)
  show IntKind.i64.wrap ((BitVec.ofInt 64 (a : Int) ^^^ BitVec.ofInt 64 (b : Int)).toNat : Int) = _
  rw [BitVec.toNat_xor, ofInt_i64 a ha, ofInt_i64 b hb]
  exact wrap_i64_nat _ (by omega)
theorem i64_andNot (a b : Nat) (ha : a < 9223372036854775808) (hb : b < 9223372036854775808) : bits .andNot .i64 (a : Int) (b : Int) = ((a &&& (2 ^ 63 - 1 - b) : Nat) : Int) := by
  have hx : a &&& (2 ^ 63 - 1 - b) < 2 ^ 63 := Nat.and_lt_two_pow _ (by omega)
  show IntKind.i64.wrap ((BitVec.ofInt 64 (a : Int) &&& ~~~BitVec.ofInt 64 (b : Int)).toNat : Int) = _
  rw [BitVec.toNat_and, BitVec.toNat_not, ofInt_i64 a ha, ofInt_i64 b hb]
  have e : a &&& (2 ^ 64 - 1 - b) = a &&& (2 ^ 63 - 1 - b) := by
    apply Nat.eq_of_testBit_eq
    intro j
    simp only [Nat.testBit_and]
    by_cases hj : j < 63
    · congr 1
      have e1 : (2 ^ 64 - 1 - b) = 2 ^ 63 * 1 + (2 ^ 63 - 1 - b) := by omega
      rw [e1, Nat.testBit_two_pow_mul_add _ (by omega)]
      simp [hj]
    · have : a.testBit j = false := Nat.testBit_lt_two_pow (Nat.lt_of_lt_of_le (by omega : a < 2 ^ 63) (Nat.pow_le_pow_right (by decide) (by omega)))
      simp [this]
  rw [e]
  exact wrap_i64_nat _ (by omega)

theorem i64_bit (x k : Nat) (hx : x < 9223372036854775808) : bits .and .i64 ((x / 2 ^ k : Nat) : Int) 1 = (dig x k : Int) := by
  have h : x / 2 ^ k < 9223372036854775808 := Nat.lt_of_le_of_lt (Nat.div_le_self _ _) hx
  have := i64_and (x / 2 ^ k) 1 h (by decide)
  rw [show ((1 : Nat) : Int) = 1 from rfl] at this
  rw [this, Nat.and_one_is_mod]; rfl

end Go.Proofs.Ytkdidplpnhokiaa
