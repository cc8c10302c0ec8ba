/- Texts cut at a byte; numbers in decimal: the model's. -/
import Derived.Test.YtohmhiodmaahfaaDoorSplitM
import Derived.Test.YtohmhiodmaahfaaDoorNetM
import Derived.Test.YtohmhiodmaahfaaDoorOwn
namespace Go.Proofs.YtohmhiodmaahfaaDoor
open Go.RowKit
set_option linter.unusedVariables false

theorem infoStr : (Tryd.prog.info? 9).map (fun i => (i.zero, i.size, i.bytes)) = some (some (.string ByteArray.empty), 1, 16) := by kernel_rfl
/-- the slice v lies in a block of its own, from block base on, and has the texts l -/
def OwnsS (w : World) (base : Nat) (v : Value) (l : List ByteArray) : Prop := w.ownsRow base 9 1 v l.length (l.map Value.string)
theorem OwnsS.snoc {w : World} {base : Nat} {v : Value} {l : List ByteArray} {x : ByteArray} (h : w.ownsRow base 9 1 v (l.length + 1) (l.map Value.string ++ [.string x])) : OwnsS w base v (l ++ [x]) := by
  unfold OwnsS
  rw [List.length_append, List.length_singleton, List.map_append]
  exact h

theorem b10 (k : Nat) (h : k ≤ 9) : (10 : Int) ^ k ≤ 1000000000 := by
  have : (10 : Nat) ^ k ≤ 10 ^ 9 := Nat.pow_le_pow_right (by decide) h
  have e : ((10 : Int) ^ k) = ((10 ^ k : Nat) : Int) := by simp
  rw [e]; omega

end Go.Proofs.YtohmhiodmaahfaaDoor
