/- Small laws for the walks of laws (tools/lawk.py). -/
import Derived.Test.YtapcblibokkhcaaDoorNetX
import Derived.Test.YtapcblibokkhcaaDoorIn
import Derived.Test.YtapcblibokkhcaaDoorHeldN
namespace Go.Proofs.YtapcblibokkhcaaDoor
open Go.RowKit
set_option linter.unusedVariables false

theorem purseG {left z : Int} {xss : List (List Int)} (h : szZ2 left xss = z) (hz : ¬ z = -1) (hl : left ≤ 1048576) :
    xss.length ≤ 1048576 ∧ (∀ i, i < xss.length → (xss.getD i []).length ≤ 1048576) ∧ ((xss.length + sumLen xss xss.length : Nat) : Int) ≤ left ∧ 0 ≤ z ∧ z = left - (xss.length + sumLen xss xss.length : Nat) := by
  obtain ⟨h1, h2⟩ := szZ2_pos (by rw [h]; exact hz)
  refine ⟨by omega, fun i hi => ?_, h1, by omega, by omega⟩
  have := sumLen_mono xss (show i + 1 ≤ xss.length by omega)
  simp only [sumLen] at this
  omega
theorem In.monoI {w : World} {B C B' C' : Nat} {v : Value} {xs : List Int} (h : In w B C v xs) (hB : B' ≤ B) (hC : C ≤ C') : In w B' C' v xs := h.wide hB hC
theorem Owns.inAll {w : World} {B : Nat} {v : Value} {xs : List Int} (h : Owns w B v xs) : In w B w.heap.size v xs := In.of h (Nat.le_refl _) (Nat.le_refl _)


end Go.Proofs.YtapcblibokkhcaaDoor
