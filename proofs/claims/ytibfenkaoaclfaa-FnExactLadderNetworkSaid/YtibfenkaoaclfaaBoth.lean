/- l02Numbers, l02Both: the model's networks put together. -/
import Derived.Test.YtibfenkaoaclfaaPut
import Derived.Test.YtibfenkaoaclfaaRen
import Derived.Deep.RegionHeld3
namespace Go.Proofs.Ytibfenkaoaclfaa
open Go.RowKit
set_option linter.unusedVariables false

/-- the new numbers of the points below k -/
def numL (zero one next : Int) (k : Nat) : List Int := (List.range k).map fun (q : Nat) => numZ zero one next (q : Int)
theorem numL_succ (zero one next : Int) (k : Nat) : numL zero one next (k + 1) = numL zero one next k ++ [numZ zero one next (k : Int)] := by simp [numL, List.range_succ]
theorem numL_two (zero one next : Int) : numL zero one next 2 = [zero, one] := rfl
theorem numL_len (zero one next : Int) (k : Nat) : (numL zero one next k).length = k := by simp [numL]
theorem numL_at {zero one next : Int} {k q : Nat} (h : q < k) : (numL zero one next k).getD q 0 = numZ zero one next (q : Int) := by
  simp [numL, List.getD_eq_getElem?_getD, h]
theorem owns_lit2 (w : World) (x y : Int) : Owns (w.alloc (.cells #[.int .i64 x, .int .i64 y] 2)) w.heap.size (.slice (some ⟨w.heap.size, 0, none⟩) 2 2) [x, y] :=
  ⟨by simp, .inr ⟨w.heap.size, 2, #[.int .i64 x, .int .i64 y], rfl, Nat.le_refl _, heap_alloc_new w _, Nat.le_refl _, by decide, by simp, by simp⟩⟩

end Go.Proofs.Ytibfenkaoaclfaa
