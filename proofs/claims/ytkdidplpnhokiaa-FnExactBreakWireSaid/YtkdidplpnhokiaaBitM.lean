/- Eight sets of numbers below 8, told by bits: mathematics. -/
import Derived.Test.YtkdidplpnhokiaaSetsM
namespace Go.Proofs.Ytkdidplpnhokiaa
open Go.RowKit
set_option linter.unusedVariables false

noncomputable def bP (p : Prop) : Bool := @decide p (Classical.propDecidable p)
theorem bP_iff {p : Prop} : bP p = true ↔ p := by unfold bP; exact ⟨fun h => @of_decide_eq_true p (Classical.propDecidable p) h, fun h => @decide_eq_true p (Classical.propDecidable p) h⟩
theorem bP_yes {p : Prop} (h : p) : bP p = true := bP_iff.2 h
theorem bP_no {p : Prop} (h : ¬ p) : bP p = false := by
  cases e : bP p
  · rfl
  · exact absurd (bP_iff.1 e) h
theorem bP_congr {p q : Prop} (h : p ↔ q) : bP p = bP q := by rw [propext h]
theorem bP_out {p : Prop} (h : bP p = false) : ¬ p := fun hp => by rw [bP_yes hp] at h; cases h

/-- the rows that Q tells of i, as a set -/
noncomputable def rowN (Q : Nat → Prop) : Nat := setOf (fun b => bP (Q b)) 8
noncomputable def matZ (Q : Nat → Nat → Prop) (i : Nat) : Int := ((rowN (Q i) : Nat) : Int)
theorem rowN_lt (Q : Nat → Prop) : rowN Q < 256 := setOf_lt _ 8
theorem rowN_testBit (Q : Nat → Prop) (j : Nat) : (rowN Q).testBit j = (decide (j < 8) && bP (Q j)) := by
  unfold rowN setOf
  rw [build_testBit]
  show (decide (j < 8) && decide ((bP (Q j)).toNat % 2 = 1)) = _
  generalize bP (Q j) = b
  cases b <;> simp
theorem rowN_congr {P Q : Nat → Prop} (h : ∀ j, j < 8 → (P j ↔ Q j)) : rowN P = rowN Q := by
  refine Nat.eq_of_testBit_eq fun j => ?_
  rw [rowN_testBit, rowN_testBit]
  by_cases hj : j < 8
  · rw [bP_congr (h j hj)]
  · simp [hj]
theorem rowN_inj {P Q : Nat → Prop} (h : rowN P = rowN Q) {j : Nat} (hj : j < 8) : P j ↔ Q j := by
  have := congrArg (fun n => n.testBit j) h
  simp only [rowN_testBit, decide_eq_true hj, Bool.true_and] at this
  exact ⟨fun h => bP_iff.1 (this ▸ bP_yes h), fun h => bP_iff.1 (this.symm ▸ bP_yes h)⟩
theorem rowN_or (Q : Nat → Prop) {k : Nat} (hk : k < 8) : rowN Q ||| 2 ^ k = rowN (fun b => Q b ∨ b = k) := by
  refine Nat.eq_of_testBit_eq fun j => ?_
  rw [Nat.testBit_or, rowN_testBit, rowN_testBit, Nat.testBit_two_pow]
  by_cases hj : j < 8
  · by_cases e : k = j
    · subst e; simp [hj, bP_yes]
    · have e2 : (Q j ∨ j = k) ↔ Q j := ⟨fun h => h.elim id fun h => absurd h.symm e, .inl⟩
      rw [bP_congr e2]; simp [e]
  · simp [hj]; omega
theorem rowN_dig (Q : Nat → Prop) {j : Nat} (hj : j < 8) : dig (rowN Q) j = (bP (Q j)).toNat := by
  rw [dig_testBit, rowN_testBit, decide_eq_true hj, Bool.true_and]
theorem rowN_none : rowN (fun _ => False) = 0 := by
  refine Nat.eq_of_testBit_eq fun j => ?_
  rw [rowN_testBit, bP_no id]; simp
theorem rowN_all : rowN (fun _ => True) = 255 := by
  refine Nat.eq_of_testBit_eq fun j => ?_
  rw [rowN_testBit, bP_yes trivial]
  have : (255 : Nat) = 2 ^ 8 - 1 := rfl
  rw [this, Nat.testBit_two_pow_sub_one]; simp
theorem matZ_bd (Q : Nat → Nat → Prop) (i : Nat) : 0 ≤ matZ Q i ∧ matZ Q i < 256 := by
  have := rowN_lt (Q i)
  unfold matZ; omega
theorem matZ_congr {P Q : Nat → Nat → Prop} {i : Nat} (h : ∀ j, j < 8 → (P i j ↔ Q i j)) : matZ P i = matZ Q i := by
  unfold matZ; rw [rowN_congr h]
/-- one member more -/
theorem matZ_put (Q : Nat → Nat → Prop) {k x : Nat} (hx : x < 8) (i : Nat) :
    (if i = k then ((rowN (Q k) ||| 2 ^ x : Nat) : Int) else matZ Q i) = matZ (fun a b => Q a b ∨ (a = k ∧ b = x)) i := by
  by_cases e : i = k
  · subst e
    rw [if_pos rfl, rowN_or _ hx]
    unfold matZ
    rw [rowN_congr (P := fun b => Q i b ∨ b = x) (Q := fun b => Q i b ∨ (i = i ∧ b = x)) fun j _ => by simp]
  · rw [if_neg e]
    exact matZ_congr fun j _ => ⟨.inl, fun h => h.elim id fun h => absurd h.1 e⟩

end Go.Proofs.Ytkdidplpnhokiaa
