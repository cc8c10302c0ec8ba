/- IsNetwork by its result; the purse of a law. -/
import Derived.Test.YtkdidplpnhokiaaNet1
import Derived.Test.YtkdidplpnhokiaaNetCp
namespace Go.Proofs.Ytkdidplpnhokiaa
open Go.RowKit
set_option linter.unusedVariables false

theorem purse {xss : List (List Int)} {z : Int} (h : szZ2 1048576 xss = z) (hz : z ≠ -1) : xss.length ≤ 1048576 ∧ (∀ i, i < xss.length → (xss.getD i []).length ≤ 1048576) ∧ xss.length + sumLen xss xss.length ≤ 1048576 ∧ 0 ≤ z := by
  obtain ⟨h1, h2⟩ := szZ2_pos (by rw [h]; exact hz)
  refine ⟨by omega, fun i hi => ?_, by omega, by omega⟩
  have := sumLen_mono xss (show i + 1 ≤ xss.length by omega)
  simp only [sumLen] at this
  omega
theorem reads2At {w w' : World} {v : Value} {xss : List (List Int)} (hb : Below w.heap.size w w') (h : Reads2 w v xss) : Reads2 w' v xss := h.keep hb

end Go.Proofs.Ytkdidplpnhokiaa
