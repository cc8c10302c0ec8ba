/- IsSelector: the model's. -/
import Derived.Test.YtkojdaafgbfioaaDoorSeM
import Derived.Test.YtkojdaafgbfioaaDoorAt
namespace Go.Proofs.YtkojdaafgbfioaaDoor
open Go.RowKit
set_option linter.unusedVariables false

/-- what the walk of l09End asks of a digit -/
theorem bit_one {L d : Nat} (hL : L < 32) (hd : d < 5) : bits .and .i64 ((L : Int) / 2 ^ d) 1 = ((dig L d : Nat) : Int) := by
  have := digit_walk (L : Int) (d : Int) (by omega) (by omega) (by omega)
  rw [Int.toNat_natCast] at this
  rw [this]; unfold digZ; rw [Int.toNat_natCast, Int.toNat_natCast]

/-- one digit more -/
theorem endT_step {s : ByteArray} {m L a d : Nat} (hd : 0 ≤ byteAt s a - 48 ∧ byteAt s a - 48 < 5) (hdd : dgt s a = d) (hb : dig L d = 1) (h1 : selAt s m (L - 2 ^ d) (a + 1) = true) : endT s (m + 1) L a = endT s m (L - 2 ^ d) (a + 1 + lenT m) := by
  unfold endT
  rw [selAt_succ, hdd, decide_eq_true ⟨hd, hb⟩, h1, lenT_succ]
  simp only [Bool.true_and]
  split
  · congr 1; omega
  · rfl
theorem endT_stop {s : ByteArray} {m L a d : Nat} (hdd : dgt s a = d) (h1 : ¬ ((0 ≤ byteAt s a - 48 ∧ byteAt s a - 48 < 5) ∧ dig L d = 1) ∨ selAt s m (L - 2 ^ d) (a + 1) = false) : endT s (m + 1) L a = -1 := by
  apply endT_no
  rw [selAt_succ, hdd]
  rcases h1 with h1 | h1
  · rw [decide_eq_false h1]; rfl
  · rw [h1]; simp

end Go.Proofs.YtkojdaafgbfioaaDoor
