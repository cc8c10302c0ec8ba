/- The part of a table for an input and a value: the program's and the model's. -/
import Derived.Test.YtlcfecccpbeofabDoorTf
import Derived.Shelf.Abstract
namespace Go.Proofs.YtlcfecccpbeofabDoor
open Go.RowKit
set_option linter.unusedVariables false

/-- the row in which the input i has a value, and the others what they have in the row k -/
def partRow (i value k : Int) : Int := bits .or .i64 (bits .andNot .i64 k (wrap64 (2 ^ i.toNat))) (wrap64 (value * 2 ^ i.toNat))
theorem partRow_fin : ∀ (n : Fin 6) (i : Fin 5) (v : Fin 2) (k : Fin 32), i.val < n.val → k.val < 2 ^ n.val → 0 ≤ partRow (i.val : Int) (v.val : Int) (k.val : Int) ∧ partRow (i.val : Int) (v.val : Int) (k.val : Int) < ((2 ^ n.val : Nat) : Int) := by
  decide +kernel
theorem partRow_bd {n i value : Int} {k : Nat} (n5 : n ≤ 5) (i0 : 0 ≤ i) (in_ : i < n) (v0 : 0 ≤ value) (v1 : value ≤ 1) (hk : k < 2 ^ n.toNat) : 0 ≤ partRow i value k ∧ partRow i value k < ((2 ^ n.toNat : Nat) : Int) := by
  obtain ⟨N, rfl⟩ := Int.eq_ofNat_of_zero_le (show 0 ≤ n by omega)
  obtain ⟨I, rfl⟩ := Int.eq_ofNat_of_zero_le i0
  obtain ⟨V, rfl⟩ := Int.eq_ofNat_of_zero_le v0
  rw [Int.toNat_natCast] at *
  have h32 : 2 ^ N ≤ 2 ^ 5 := Nat.pow_le_pow_right (by decide) (by omega)
  exact partRow_fin ⟨N, by omega⟩ ⟨I, by omega⟩ ⟨V, by omega⟩ ⟨k, by omega⟩ (show I < N by omega) hk

/-- the number of the part's values -/
def partVals (n v i value : Int) : Int := buildZ (fun j => dig v.toNat (partRow i value j).toNat) (2 ^ n.toNat)

end Go.Proofs.YtlcfecccpbeofabDoor
