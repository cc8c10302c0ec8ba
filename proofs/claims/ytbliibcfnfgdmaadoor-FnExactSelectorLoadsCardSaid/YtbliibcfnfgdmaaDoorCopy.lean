/- A slice of int64 copied into a slice of the call's own. -/
import Derived.Test.YtbliibcfnfgdmaaDoorOwn
import Derived.Test.YtbliibcfnfgdmaaDoorFrame
namespace Go.Proofs.YtbliibcfnfgdmaaDoor
open Go.RowKit
set_option linter.unusedVariables false

/-- xs so far, zeros behind -/
def copyTo (xs : List Int) (k : Nat) : List Int := xs.take k ++ List.replicate (xs.length - k) 0
theorem copyTo_len (xs : List Int) (k : Nat) (h : k ≤ xs.length) : (copyTo xs k).length = xs.length := by simp [copyTo]; omega
theorem copyTo_set (xs : List Int) (k : Nat) (h : k < xs.length) : (copyTo xs (k + 1)).map (Value.int .i64) = ((copyTo xs k).map (Value.int .i64)).set k (.int .i64 (xs.getD k 0)) := by
  unfold copyTo
  have e : xs.length - k = (xs.length - (k + 1)) + 1 := by omega
  have l : (xs.take k).length = k := by simp; omega
  rw [e, List.replicate_succ, ← List.map_set, List.set_append_right _ _ (by omega), l, Nat.sub_self, List.take_succ_eq_append_getElem h, List.append_assoc]
  simp [List.getD_eq_getElem?_getD, h]
theorem copyTo_all (xs : List Int) : copyTo xs xs.length = xs := by simp [copyTo]
theorem made_zero (m : Nat) : (madeCells (Value.int .i64 0).cells (m * 1)).toList = (List.replicate m (0 : Int)).map (Value.int .i64) := by
  simp only [madeCells, Value.cells, Nat.mul_one]
  apply List.ext_getElem
  · simp
  · intro i h1 h2
    simp [Nat.mod_one]

end Go.Proofs.YtbliibcfnfgdmaaDoor
