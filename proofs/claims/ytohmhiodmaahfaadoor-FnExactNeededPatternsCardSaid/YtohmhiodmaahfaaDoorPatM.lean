/- Patterns and the rows that they cover (plain mathematics). -/
import Derived.Test.YtohmhiodmaahfaaDoorTrm
namespace Go.Proofs.YtohmhiodmaahfaaDoor
open Go.RowKit
set_option linter.unusedVariables false

/-- the signs of a pattern for all inputs; those that it is not for can be both -/
def sgn (s : ByteArray) (i : Nat) : Int := if i < s.size then byteAt s i else 45
/-- a sign of a pattern -/
def sigC (c : Int) : Prop := c = 45 ∨ c = 48 ∨ c = 49
theorem sgn_sig {s : ByteArray} (h : allIn s [45, 48, 49] = true) (i : Nat) : sigC (sgn s i) := by
  unfold sgn
  split
  · rename_i hi
    obtain ⟨c, hc, e⟩ := (allIn_iff s _).1 h i hi
    rw [e]
    simp only [List.mem_cons, List.not_mem_nil, or_false] at hc
    rcases hc with rfl | rfl | rfl
    · exact .inl rfl
    · exact .inr (.inl rfl)
    · exact .inr (.inr rfl)
  · exact .inl rfl
theorem sigs_iff {s : ByteArray} : allIn s [45, 48, 49] = true ↔ ∀ i, i < s.size → byteAt s i = 48 ∨ byteAt s i = 49 ∨ byteAt s i = 45 := by
  rw [allIn_iff]
  constructor
  · intro h i hi
    obtain ⟨c, hc, e⟩ := h i hi
    rw [e]
    simp only [List.mem_cons, List.not_mem_nil, or_false] at hc
    rcases hc with rfl | rfl | rfl <;> decide
  · intro h i hi
    rcases h i hi with e | e | e <;> rw [e]
    · exact ⟨48, by simp, rfl⟩
    · exact ⟨49, by simp, rfl⟩
    · exact ⟨45, by simp, rfl⟩
/-- does a sign let a row by? -/
def okS (f : Nat → Int) (row : Int) (i : Nat) : Bool := decide (f i = 45 ∨ f i - 48 = digZ row (i : Int))
/-- does a pattern cover a row? -/
def covF (f : Nat → Int) (row : Int) : Bool := (List.range 5).all fun i => okS f row i
theorem covF_iff {f : Nat → Int} {row : Int} : covF f row = true ↔ ∀ i, i < 5 → okS f row i = true := by
  unfold covF; rw [List.all_eq_true]
  exact ⟨fun h i hi => h i (List.mem_range.2 hi), fun h i hi => h i (List.mem_range.1 hi)⟩
theorem covF_no {f : Nat → Int} {row : Int} {j : Nat} (hj : j < 5) (h : okS f row j = false) : covF f row = false := by
  cases hc : covF f row
  · rfl
  · rw [covF_iff.1 hc j hj] at h; cases h
theorem covF_congr {f g : Nat → Int} (h : ∀ i, i < 5 → f i = g i) (row : Int) : covF f row = covF g row := by
  have e : ∀ i, i < 5 → okS f row i = okS g row i := fun i hi => by unfold okS; rw [h i hi]
  rw [Bool.eq_iff_iff, covF_iff, covF_iff]
  exact ⟨fun hh i hi => by rw [← e i hi]; exact hh i hi, fun hh i hi => by rw [e i hi]; exact hh i hi⟩
/-- the rows that it covers, among the first k, as a number -/
def rowsF (f : Nat → Int) (k : Nat) : Nat := build (fun r => (covF f (r : Int)).toNat) k
theorem rowsF_lt (f : Nat → Int) (k : Nat) : rowsF f k < 2 ^ k := build_lt _ _
theorem rowsF_zero (f : Nat → Int) : rowsF f 0 = 0 := rfl
theorem rowsF_skip {f : Nat → Int} {k : Nat} (h : covF f (k : Int) = false) : rowsF f (k + 1) = rowsF f k := by
  show rowsF f k + (covF f (k : Int)).toNat % 2 * 2 ^ k = rowsF f k
  rw [h]; simp
theorem rowsF_or {f : Nat → Int} {k : Nat} (hk : k < 32) (h : covF f (k : Int) = true) : bits .or .i64 ((rowsF f k : Nat) : Int) (2 ^ k) = ((rowsF f (k + 1) : Nat) : Int) := by
  have h1 := rowsF_lt f k
  have h2 : 2 ^ k < 2 ^ 32 := Nat.pow_lt_pow_right (by decide) hk
  have e : ((2 : Int) ^ k) = ((2 ^ k : Nat) : Int) := by simp
  rw [e, i64_or _ _ (by omega) (by omega)]
  have := build_or (fun r => (covF f (r : Int)).toNat) k
  rw [h] at this
  have h3 : rowsF f k ||| 2 ^ k = rowsF f (k + 1) := by simpa [rowsF] using this
  rw [h3]
theorem rowsF_dig {f : Nat → Int} {k r : Nat} (hr : r < k) : dig (rowsF f k) r = (covF f (r : Int)).toNat := by
  unfold rowsF
  rw [build_dig _ hr]
  cases covF f (r : Int) <;> rfl
theorem rowsF_bit (f : Nat → Int) (k r : Nat) : (rowsF f k).testBit r = (decide (r < k) && covF f (r : Int)) := by
  unfold rowsF
  rw [build_testBit]
  cases covF f (r : Int) <;> simp
/-- is it implied by a table? -/
def impF (v : Int) (f : Nat → Int) (k : Nat) : Bool := decide (∀ r, r < k → covF f (r : Int) = true → digZ v (r : Int) = 1)
theorem impF_iff {v : Int} {f : Nat → Int} {k : Nat} : impF v f k = true ↔ ∀ r, r < k → covF f (r : Int) = true → digZ v (r : Int) = 1 := decide_eq_true_iff
theorem impF_bits {v : Int} (h0 : 0 ≤ v) (h1 : v < 9223372036854775808) (f : Nat → Int) {k : Nat} (hk : k ≤ 32) : (bits .andNot .i64 ((rowsF f k : Nat) : Int) v == 0) = impF v f k := by
  obtain ⟨x, rfl⟩ : ∃ x : Nat, v = (x : Int) := ⟨v.toNat, by omega⟩
  have hr := rowsF_lt f k
  have h32 : 2 ^ k ≤ 2 ^ 32 := Nat.pow_le_pow_right (by decide) hk
  rw [i64_andNot _ _ (by omega) (by omega), Bool.eq_iff_iff, beq_iff_eq, impF_iff]
  have key : ∀ j, j < 63 → (2 ^ 63 - 1 - x).testBit j = !x.testBit j := fun j hj => by
    have := Nat.testBit_two_pow_sub_succ (x := x) (n := 63) (by omega) j
    rw [show 2 ^ 63 - 1 - x = 2 ^ 63 - (x + 1) by omega, this]; simp [hj]
  constructor
  · intro h r hr2 hc
    have h2 : (rowsF f k &&& (2 ^ 63 - 1 - x)) = 0 := by omega
    have h3 := congrArg (fun z => Nat.testBit z r) h2
    simp only [Nat.testBit_and, Nat.zero_testBit, rowsF_bit, key r (by omega), hc, hr2, decide_true, Bool.true_and, Bool.not_eq_false'] at h3
    unfold digZ
    rw [Int.toNat_natCast, Int.toNat_natCast, dig_testBit, h3]; rfl
  · intro h
    have : (rowsF f k &&& (2 ^ 63 - 1 - x)) = 0 := by
      apply Nat.eq_of_testBit_eq
      intro r
      rw [Nat.testBit_and, rowsF_bit, Nat.zero_testBit]
      by_cases hr2 : r < k
      · cases hc : covF f (r : Int)
        · simp
        · have := h r hr2 hc
          unfold digZ at this
          rw [Int.toNat_natCast, Int.toNat_natCast, dig_testBit] at this
          have hx : x.testBit r = true := by
            cases hb : x.testBit r
            · rw [hb] at this; simp at this
            · rfl
          rw [key r (by omega), hx]; simp
      · simp [hr2]
    omega
/-- is a text a pattern for n inputs? -/
def isPat (s : ByteArray) (n : Int) : Bool := decide ((s.size : Int) = n) && allIn s [45, 48, 49]

end Go.Proofs.YtohmhiodmaahfaaDoor
