/- alike: the program's test in the words of AlM. -/
import Derived.Test.YtapcblibokkhcaaDoorAlM
import Derived.Test.YtapcblibokkhcaaDoorGrM
import Derived.Test.YtapcblibokkhcaaDoorPart
namespace Go.Proofs.YtapcblibokkhcaaDoor
open Go.RowKit
set_option linter.unusedVariables false

theorem partRow_set : ∀ (i : Fin 5) (c : Fin 2) (k : Fin 32), partRow (i.val : Int) (c.val : Int) (k.val : Int) = ((setB i.val c.val k.val : Nat) : Int) := by decide +kernel
theorem setB_lt : ∀ (n : Fin 6) (i : Fin 5) (c : Fin 2) (k : Fin 32), i.val < n.val → k.val < 2 ^ n.val → setB i.val c.val k.val < 2 ^ n.val := by decide +kernel
/-- the part of a part -/
theorem partPart_dig {v : Int} {N i j a b k : Nat} (hN : N ≤ 5) (hi : i < N) (hj : j < N) (ha : a < 2) (hb : b < 2) (hk : k < 2 ^ N) :
    dig (partVals (N : Int) (partVals (N : Int) v (i : Int) (a : Int)) (j : Int) (b : Int)).toNat k = dig v.toNat (setB i a (setB j b k)) := by
  have h32 := pow5 hN
  have e1 : partRow (j : Int) (b : Int) (k : Int) = ((setB j b k : Nat) : Int) := partRow_set ⟨j, by omega⟩ ⟨b, by omega⟩ ⟨k, by omega⟩
  have b1 : setB j b k < 2 ^ N := setB_lt ⟨N, by omega⟩ ⟨j, by omega⟩ ⟨b, by omega⟩ ⟨k, by omega⟩ hj hk
  have e2 : partRow (i : Int) (a : Int) ((setB j b k : Nat) : Int) = ((setB i a (setB j b k) : Nat) : Int) := partRow_set ⟨i, by omega⟩ ⟨a, by omega⟩ ⟨setB j b k, by omega⟩
  unfold partVals buildZ
  simp only [Int.toNat_natCast]
  rw [build_dig _ hk, e1, Int.toNat_natCast, dig_mod, build_dig _ b1, dig_mod, e2, Int.toNat_natCast]
theorem partPart_eq {v : Int} {N i j : Nat} (hN : N ≤ 5) (hi : i < N) (hj : j < N) :
    (partVals (N : Int) (partVals (N : Int) v (i : Int) 1) (j : Int) 0 = partVals (N : Int) (partVals (N : Int) v (i : Int) 0) (j : Int) 1) ↔ AlP v.toNat N i j := by
  have l : ∀ (x a b : Int), 0 ≤ partVals (N : Int) x a b ∧ (partVals (N : Int) x a b).toNat < 2 ^ 2 ^ N := fun x a b => by
    unfold partVals buildZ
    rw [Int.toNat_natCast, Int.toNat_natCast]
    exact ⟨by omega, build_lt _ _⟩
  constructor
  · intro h k hk
    rw [← partPart_dig hN hi hj (by decide) (by decide) hk, ← partPart_dig hN hi hj (by decide) (by decide) hk]
    exact congrArg (fun x : Int => dig x.toNat k) h
  · intro h
    have e : (partVals (N : Int) (partVals (N : Int) v (i : Int) 1) (j : Int) 0).toNat = (partVals (N : Int) (partVals (N : Int) v (i : Int) 0) (j : Int) 1).toNat := by
      refine dig_ext (l _ _ _).2 (l _ _ _).2 fun k hk => ?_
      have h1 := partPart_dig (v := v) (a := 1) (b := 0) hN hi hj (by decide) (by decide) hk
      have h2 := partPart_dig (v := v) (a := 0) (b := 1) hN hi hj (by decide) (by decide) hk
      exact h1.trans ((h k hk).trans h2.symm)
    have h1 := (l (partVals (N : Int) v (i : Int) 1) (j : Int) 0).1
    have h2 := (l (partVals (N : Int) v (i : Int) 0) (j : Int) 1).1
    omega

/-- are the inputs i and j alike -/
def alB (v : Int) (N i j : Nat) : Bool := decide (AlS v.toNat N i j)
theorem alB_equiv (v : Int) {N : Nat} (hN : N ≤ 5) : Equiv (alB v N) N where
  self i := decide_eq_true (AlS_self _ _ _)
  symm i j hi hj h := decide_eq_true (AlS_symm hN hi hj (of_decide_eq_true h))
  trans i j k hi hj hk h1 h2 := decide_eq_true (AlS_trans hN hi hj hk (of_decide_eq_true h1) (of_decide_eq_true h2))
/-- is a table symmetric -/
def symB (v : Int) (N : Nat) : Bool := decide (SymP v.toNat N)
theorem symB_one (v : Int) {N : Nat} (hN : N ≤ 5) (h1 : 1 ≤ N) : decide ((grps (alB v N) N).length = 1) = symB v N := by
  unfold symB
  rw [Bool.eq_iff_iff, decide_eq_true_iff, decide_eq_true_iff, grps_one (alB_equiv v hN) h1, SymP_iff hN h1]
  constructor
  · intro h i hi1 hi; exact of_decide_eq_true (h i hi1 hi)
  · intro h i hi1 hi; exact decide_eq_true (h i hi1 hi)

end Go.Proofs.YtapcblibokkhcaaDoor
