/- Slices that a call builds: small laws. -/
import Derived.Test.YtkdidplpnhokiaaSl
import Derived.Test.YtkdidplpnhokiaaAt
import Derived.Deep.RegionHeld3
import Derived.Deep.DeepCutAuto
import Derived.Deep.RegionWith
namespace Go.Proofs.Ytkdidplpnhokiaa
open Go.RowKit

theorem info64 : (Try.prog.info? 2).map (fun i => (i.zero, i.size, i.bytes)) = some (some (.int .i64 0), 1, 8) := by kernel_rfl

theorem C2.grown {w w1 : World} {b : Nat} {x y : Value} {row : Option Nat} (h : C2 w b x y) (hg : w.grownBy w1 row) (hr : row ≠ some b) : C2 w1 b x y := by
  obtain ⟨h0, h1, f0, f1, hz⟩ := h
  have e := hg.block b hz (Ne.symm hr)
  have := hg.size
  exact ⟨(World.cell?_of_block (w := w) e).trans h0, (World.cell?_of_block (w := w) e).trans h1, (World.frozen?_of_block (w := w) e).trans f0, (World.frozen?_of_block (w := w) e).trans f1, by omega⟩
theorem Owns.notBlock {w : World} {base b : Nat} {v : Value} {xs : List Int} (h : Owns w base v xs) (hb : b < base) : v.ownBlock ≠ some b := fun e => by
  have := (World.ownsRow.lt h b e).1
  omega
theorem Owns.rowsFrom {w : World} {base B : Nat} {v : Value} {xs : List Int} (h : Owns w base v xs) (hB : B ≤ base) : ∀ k, v.ownBlock = some k → B ≤ k := fun k e => Nat.le_trans hB (World.ownsRow.lt h k e).1
theorem Owns.snoc {w : World} {base : Nat} {v : Value} {xs : List Int} {x : Int} (h : w.ownsRow base 2 1 v (xs.length + 1) (xs.map (Value.int .i64) ++ [.int .i64 x])) : Owns w base v (xs ++ [x]) := by
  unfold Owns
  rw [List.length_append, List.length_singleton, List.map_append]
  exact h

end Go.Proofs.Ytkdidplpnhokiaa
