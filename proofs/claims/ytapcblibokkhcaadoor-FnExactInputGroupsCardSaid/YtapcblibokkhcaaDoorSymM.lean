/- Numbers of ones, and ascending lists as sets: plain mathematics. -/
import Derived.Test.YtapcblibokkhcaaDoorSetsM
import Derived.Test.YtapcblibokkhcaaDoorAsc
import Derived.Test.YtapcblibokkhcaaDoorTBM
namespace Go.Proofs.YtapcblibokkhcaaDoor
open Go.RowKit
set_option linter.unusedVariables false

/-- how many of the first five digits are 1 -/
def onesN (r : Nat) : Nat := dig r 0 + dig r 1 + dig r 2 + dig r 3 + dig r 4
theorem onesN_le (r : Nat) : onesN r ≤ 5 := by
  unfold onesN
  have := dig_lt r 0
  have := dig_lt r 1
  have := dig_lt r 2
  have := dig_lt r 3
  have := dig_lt r 4
  omega
theorem onesN_fin : ∀ (n : Fin 6) (k : Fin 32), k.val < 2 ^ n.val → onesN k.val ≤ n.val := by decide +kernel
theorem onesN_bd {n k : Nat} (hn : n ≤ 5) (hk : k < 2 ^ n) : onesN k ≤ n := by
  have : 2 ^ n ≤ 2 ^ 5 := Nat.pow_le_pow_right (by decide) hn
  exact onesN_fin ⟨n, by omega⟩ ⟨k, by omega⟩ hk

/-- the first k elements of a list, as a set -/
def sumTo (xs : List Int) : Nat → Nat
  | 0 => 0
  | k + 1 => sumTo xs k + 2 ^ (xs.getD k 0).toNat

theorem onesTo_congr {v v' : Int} {k : Nat} (h : ∀ j, j < k → dig v.toNat j = dig v'.toNat j) : onesTo v k = onesTo v' k := by
  unfold onesTo
  congr 1
  apply List.filter_congr
  intro j hj
  rw [h j (by simpa using hj)]
theorem pow_add_or {S X : Nat} (h : S < 2 ^ X) : S + 2 ^ X = S ||| 2 ^ X := by
  have := Nat.two_pow_add_eq_or_of_lt h 1
  rw [Nat.mul_one] at this
  rw [Nat.or_comm, ← this, Nat.add_comm]
theorem dig_pow_add {S X : Nat} (h : S < 2 ^ X) (j : Nat) : dig (S + 2 ^ X) j = if j < X then dig S j else if j = X then 1 else 0 := by
  have e : S + 2 ^ X = 2 ^ X * 1 + S := by omega
  rw [e, dig_testBit, Nat.testBit_two_pow_mul_add _ h, dig_testBit]
  by_cases h1 : j < X
  · simp [h1]
  · simp only [h1, if_false]
    by_cases h2 : j = X
    · subst h2; simp
    · rw [if_neg h2, Nat.testBit_lt_two_pow]
      · rfl
      · have : (2 : Nat) ^ 1 ≤ 2 ^ (j - X) := Nat.pow_le_pow_right (by decide) (by omega)
        omega
theorem dig_high {S b j : Nat} (h : S < 2 ^ b) (hj : b ≤ j) : dig S j = 0 := by
  have : S < 2 ^ j := Nat.lt_of_lt_of_le h (Nat.pow_le_pow_right (by decide) hj)
  unfold dig
  rw [Nat.div_eq_of_lt this]
theorem onesTo_high {S b m : Nat} (h : S < 2 ^ b) (hm : b ≤ m) : onesTo (S : Int) m = onesTo (S : Int) b := by
  induction m with
  | zero => have : b = 0 := by omega
            subst this; rfl
  | succ m ih =>
    rcases Nat.lt_or_ge m b with h1 | h1
    · have : b = m + 1 := by omega
      subst this; rfl
    · rw [onesTo_miss, ih h1]
      rw [Int.toNat_natCast, dig_high h h1]; decide

theorem asc_sum (l : Int) (xs : List Int) (h : ascB l xs) : ∀ k, k ≤ xs.length → ∃ b : Nat, sumTo xs k < 2 ^ b ∧ (b : Int) ≤ max l 0 ∧ (k < xs.length → b ≤ (xs.getD k 0).toNat) ∧ onesTo (sumTo xs k : Int) b = xs.take k := by
  intro k
  induction k with
  | zero => intro _; exact ⟨0, by simp [sumTo], by omega, fun _ => Nat.zero_le _, by simp [onesTo]⟩
  | succ k ih =>
    intro hk
    obtain ⟨b, h1, h2, h3, h4⟩ := ih (by omega)
    have hb := h3 (by omega)
    obtain ⟨⟨x0, x1⟩, x2⟩ := h k (by omega)
    obtain ⟨X, hX⟩ : ∃ X : Nat, (xs.getD k 0).toNat = X := ⟨_, rfl⟩
    have hx : xs.getD k 0 = (X : Int) := by omega
    rw [hX] at hb
    rw [hx] at x1
    clear x2
    have ht : xs.take (k + 1) = xs.take k ++ [(X : Int)] := by
      rw [List.take_succ_eq_append_getElem (by omega), ← hx]
      simp [List.getD_eq_getElem?_getD, show k < xs.length by omega]
    have hpow : (2 : Nat) ^ b ≤ 2 ^ X := Nat.pow_le_pow_right (by decide) (by omega)
    have hS : sumTo xs k < 2 ^ X := by omega
    have es : sumTo xs (k + 1) = sumTo xs k + 2 ^ X := by simp only [sumTo]; rw [hX]
    refine ⟨X + 1, ?_, ?_, ?_, ?_⟩
    · rw [es, Nat.pow_succ]; omega
    · omega
    · intro hl
      have := (h (k + 1) hl).2 (by omega)
      rw [show k + 1 - 1 = k from rfl, hx] at this
      omega
    · have hd := fun j => dig_pow_add hS j
      rw [es, onesTo_hit _ _ (by rw [Int.toNat_natCast, hd]; simp), ht, ← h4, ← onesTo_high h1 (by omega : b ≤ X)]
      rw [onesTo_congr (v := ((sumTo xs k + 2 ^ X : Nat) : Int)) (v' := (sumTo xs k : Int))]
      · intro j hj
        rw [Int.toNat_natCast, Int.toNat_natCast, hd, if_pos hj]

/-- the set of an ascending list -/
def setL (xs : List Int) : Nat := sumTo xs xs.length
theorem setL_bd {n : Int} {xs : List Int} (h : ascB (n + 1) xs) (h0 : 0 ≤ n) : setL xs < 2 ^ (n.toNat + 1) := by
  obtain ⟨b, h1, h2, _, _⟩ := asc_sum _ xs h xs.length (Nat.le_refl _)
  exact Nat.lt_of_lt_of_le h1 (Nat.pow_le_pow_right (by decide) (by omega))
theorem setL_list {n : Int} {xs : List Int} (h : ascB (n + 1) xs) (h0 : 0 ≤ n) (h5 : n ≤ 5) {m : Nat} (hm : 6 ≤ m) : onesTo (setL xs : Int) m = xs := by
  obtain ⟨b, h1, h2, _, h4⟩ := asc_sum _ xs h xs.length (Nat.le_refl _)
  rw [List.take_length] at h4
  unfold setL
  rw [onesTo_high h1 (by omega), h4]
theorem sumTo_bd {n : Int} {xs : List Int} (h : ascB (n + 1) xs) (h0 : 0 ≤ n) (h5 : n ≤ 5) {k : Nat} (hk : k ≤ xs.length) : sumTo xs k < 64 := by
  obtain ⟨b, h1, h2, _, _⟩ := asc_sum _ xs h k hk
  have : (2 : Nat) ^ b ≤ 2 ^ 6 := Nat.pow_le_pow_right (by decide) (by omega)
  omega
/-- one element more is an 'or' -/
theorem sumTo_or {n : Int} {xs : List Int} (h : ascB (n + 1) xs) (h0 : 0 ≤ n) (h5 : n ≤ 5) {k : Nat} (hk : k < xs.length) :
    bits .or .i64 (sumTo xs k : Int) (wrap64 (2 ^ (xs.getD k 0).toNat)) = (sumTo xs (k + 1) : Int) := by
  obtain ⟨b, h1, h2, h3, _⟩ := asc_sum _ xs h k (by omega)
  have hb := h3 hk
  obtain ⟨⟨x0, x1⟩, _⟩ := h k hk
  have hS : sumTo xs k < 2 ^ (xs.getD k 0).toNat := Nat.lt_of_lt_of_le h1 (Nat.pow_le_pow_right (by decide) hb)
  have h64 := sumTo_bd h h0 h5 (Nat.le_of_lt hk)
  rw [or_walk _ _ (by omega) (by omega), ← pow_add_or hS]
  rfl
theorem mem_onesTo {v : Int} {m k : Nat} (hk : k < m) : ((k : Int) ∈ onesTo v m) ↔ dig v.toNat k = 1 := by
  unfold onesTo
  simp only [List.mem_map, List.mem_filter, List.mem_range, beq_iff_eq]
  constructor
  · rintro ⟨j, ⟨h1, h2⟩, h3⟩
    have : j = k := by omega
    subst this; exact h2
  · intro h
    exact ⟨k, ⟨hk, h⟩, rfl⟩
theorem mem_setL {n : Int} {xs : List Int} (h : ascB (n + 1) xs) (h0 : 0 ≤ n) (h5 : n ≤ 5) {k : Nat} (hk : k < 6) : ((k : Int) ∈ xs) ↔ dig (setL xs) k = 1 := by
  have e := setL_list h h0 h5 (m := 6) (Nat.le_refl _)
  have := mem_onesTo (v := (setL xs : Int)) hk
  rw [e] at this
  simpa using this

/-- the number of the values of the symmetric table of n inputs with a set of numbers -/
def symVals (n : Int) (S : Nat) : Int := buildZ (fun r => dig S (onesN r)) (2 ^ n.toNat)
/-- what SymmetricTable gives -/
def symRes (n : Int) (xs : List Int) : Value :=
  if (1 ≤ n ∧ n ≤ 5) ∧ ascB (n + 1) xs then .tuple #[.agg #[.int .i64 n, .int .i64 (symVals n (setL xs))], .int .i64 0] else .tuple #[.agg #[.int .i64 0, .int .i64 0], .int .i64 2]
theorem symRes_cases (n : Int) (xs : List Int) : ∃ a b c : Int, symRes n xs = .tuple #[.agg #[.int .i64 a, .int .i64 b], .int .i64 c] := by
  unfold symRes; split <;> exact ⟨_, _, _, rfl⟩

end Go.Proofs.YtapcblibokkhcaaDoor
