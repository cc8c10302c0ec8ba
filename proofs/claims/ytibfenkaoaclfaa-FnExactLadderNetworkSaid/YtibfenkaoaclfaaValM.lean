/- Values of polynomials at fractions, and fractions in lowest terms. Plain mathematics. -/
import Derived.Test.YtibfenkaoaclfaaPolA
namespace Go.Proofs.Ytibfenkaoaclfaa
open Go.RowKit
set_option linter.unusedVariables false

/-- the first number of the value of a polynomial, over the power of b -/
def ovL (a b : Int) : List Int → Int
  | [] => 0
  | c :: t => ovL a b t * a + c * b ^ t.length
theorem ovL_drop (a b : Int) (xs : List Int) (j : Nat) (h : j < xs.length) : ovL a b (xs.drop j) = ovL a b (xs.drop (j + 1)) * a + xs.getD j 0 * b ^ (xs.length - 1 - j) := by
  rw [List.drop_eq_getElem_cons h, ovL]
  simp only [List.length_drop, List.getD_eq_getElem?_getD, List.getElem?_eq_getElem h, Option.getD_some]
  rw [show xs.length - (j + 1) = xs.length - 1 - j by omega]
theorem pow_bd {b : Int} (b1 : 1 ≤ b) (b2 : b ≤ 100) {n : Nat} (hn : n ≤ 5) : 1 ≤ b ^ n ∧ b ^ n ≤ 10000000000 := by
  have h1 : ∀ n : Nat, 1 ≤ b ^ n := fun n => by
    induction n with
    | zero => simp
    | succ n ih =>
      rw [Int.pow_succ]
      have := Int.mul_le_mul ih b1 (by omega) (by omega)
      omega
  have h2 : ∀ n : Nat, b ^ n ≤ 100 ^ n := fun n => by
    induction n with
    | zero => simp
    | succ n ih =>
      rw [Int.pow_succ, Int.pow_succ]
      exact Int.mul_le_mul ih b2 (by omega) (Int.pow_nonneg (by omega))
  refine ⟨h1 n, Int.le_trans (h2 n) ?_⟩
  have : ∀ m : Fin 6, (100 : Int) ^ m.val ≤ 10000000000 := by decide
  exact this ⟨n, by omega⟩
theorem abs_mul_bd {x y X Y : Int} (hx : -X ≤ x ∧ x ≤ X) (hy : -Y ≤ y ∧ y ≤ Y) : -(X * Y) ≤ x * y ∧ x * y ≤ X * Y := by
  have hX : 0 ≤ X := by omega
  have hY : 0 ≤ Y := by omega
  have h : x.natAbs * y.natAbs ≤ X.natAbs * Y.natAbs := Nat.mul_le_mul (by omega) (by omega)
  have e1 : ((X.natAbs * Y.natAbs : Nat) : Int) = X * Y := by
    rw [Int.natCast_mul, Int.natAbs_of_nonneg hX, Int.natAbs_of_nonneg hY]
  have e2 : (x * y).natAbs = x.natAbs * y.natAbs := Int.natAbs_mul x y
  omega
/-- all numbers of a list lie between -M and M -/
def inM (M : Int) (xs : List Int) : Prop := ∀ i, i < xs.length → -M ≤ xs.getD i 0 ∧ xs.getD i 0 ≤ M
instance (M : Int) (xs : List Int) : Decidable (inM M xs) := by unfold inM; infer_instance
theorem inM_tail {M c : Int} {t : List Int} (h : inM M (c :: t)) : (-M ≤ c ∧ c ≤ M) ∧ inM M t := by
  refine ⟨by have := h 0 (by simp); simpa using this, fun i hi => ?_⟩
  have := h (i + 1) (by simpa using hi)
  simpa using this
theorem ovL_bd {a b M : Int} (b1 : 1 ≤ b) (ha : -b ≤ a ∧ a ≤ b) (m0 : 0 ≤ M) : ∀ xs : List Int, inM M xs → -(xs.length * (M * b ^ (xs.length - 1))) ≤ ovL a b xs ∧ ovL a b xs ≤ xs.length * (M * b ^ (xs.length - 1))
  | [], _ => by simp [ovL]
  | [c], h => by
    have := (inM_tail h).1
    simp [ovL]; omega
  | c :: d :: t, h => by
    obtain ⟨hc, ht⟩ := inM_tail h
    have ih := ovL_bd b1 ha m0 (d :: t) ht
    have p1 := abs_mul_bd ih ha
    have hpn : 0 ≤ b ^ (d :: t).length := Int.pow_nonneg (by omega)
    have p2 := abs_mul_bd hc (⟨by omega, Int.le_refl _⟩ : -(b ^ (d :: t).length) ≤ b ^ (d :: t).length ∧ b ^ (d :: t).length ≤ b ^ (d :: t).length)
    rw [ovL]
    have e : (((d :: t).length : Int) * (M * b ^ ((d :: t).length - 1))) * b = (d :: t).length * (M * b ^ (d :: t).length) := by
      simp only [List.length_cons, Nat.add_sub_cancel]
      rw [Int.mul_assoc, Int.mul_assoc, ← Int.pow_succ]
    rw [e] at p1
    have e2 : ((c :: d :: t).length : Int) * (M * b ^ ((c :: d :: t).length - 1)) = (d :: t).length * (M * b ^ (d :: t).length) + M * b ^ (d :: t).length := by
      have : ((c :: d :: t).length : Int) = (d :: t).length + 1 := by simp
      rw [this, Int.add_mul, Int.one_mul]; rfl
    rw [e2]
    omega
theorem ovL_bd6 {a b : Int} (b1 : 1 ≤ b) (b2 : b ≤ 100) (ha : -b ≤ a ∧ a ≤ b) (xs : List Int) (h : inM 1000000 xs) (hl : xs.length ≤ 6) : -60000000000000000 ≤ ovL a b xs ∧ ovL a b xs ≤ 60000000000000000 := by
  have h1 := ovL_bd b1 ha (by decide) xs h
  have hp := pow_bd b1 b2 (n := xs.length - 1) (by omega)
  have h2 : (xs.length : Int) * (1000000 * b ^ (xs.length - 1)) ≤ 6 * (1000000 * 10000000000) := Int.mul_le_mul (by omega) (by omega) (by omega) (by omega)
  omega
theorem inM_drop {M : Int} {xs : List Int} (h : inM M xs) (j : Nat) : inM M (xs.drop j) := fun i hi => by
  have := h (j + i) (by simp at hi; omega)
  simpa [List.getD_eq_getElem?_getD] using this

/-! ### lowest terms -/
def gcdZ (x y : Int) : Int := (Nat.gcd x.toNat y.toNat : Int)
theorem gcdZ_zero {x : Int} (h : 0 ≤ x) : gcdZ x 0 = x := by unfold gcdZ; simp; omega
theorem gcdZ_step {x y : Int} (hx : 0 ≤ x) (hy : 0 < y) : gcdZ y (x % y) = gcdZ x y := by
  unfold gcdZ
  have e : (x % y).toNat = x.toNat % y.toNat := by
    obtain ⟨X, rfl⟩ := Int.eq_ofNat_of_zero_le hx
    obtain ⟨Y, rfl⟩ := Int.eq_ofNat_of_zero_le (by omega : 0 ≤ y)
    simp [← Int.natCast_emod]
  rw [e, Nat.gcd_comm, ← Nat.gcd_rec, Nat.gcd_comm]
theorem gcdZ_comm (x y : Int) : gcdZ x y = gcdZ y x := by unfold gcdZ; rw [Nat.gcd_comm]
theorem gcdZ_pos {x y : Int} (hy : 0 < y) : 1 ≤ gcdZ x y := by
  have : 0 < Nat.gcd x.toNat y.toNat := Nat.gcd_pos_of_pos_right _ (by omega)
  unfold gcdZ; omega
theorem gcdZ_le {x y : Int} (hy : 0 < y) : gcdZ x y ≤ y := by
  have : Nat.gcd x.toNat y.toNat ≤ y.toNat := Nat.gcd_le_right _ (by omega)
  unfold gcdZ; omega
def absZ (x : Int) : Int := if x < 0 then -x else x
theorem absZ_bd {x B : Int} (h : -B ≤ x ∧ x ≤ B) : 0 ≤ absZ x ∧ absZ x ≤ B := by unfold absZ; split <;> omega
/-- a fraction in lowest terms -/
def lowA (x y : Int) : Int := x.tdiv (gcdZ (absZ x) y)
def lowB (x y : Int) : Int := y / gcdZ (absZ x) y

end Go.Proofs.Ytibfenkaoaclfaa
