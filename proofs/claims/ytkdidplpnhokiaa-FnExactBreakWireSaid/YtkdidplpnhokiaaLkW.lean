/- Small laws for the walks of laws (tools/lawk.py), without networks. -/
import Derived.Test.YtkdidplpnhokiaaHeld2
import Derived.Test.YtkdidplpnhokiaaIn
namespace Go.Proofs.Ytkdidplpnhokiaa
open Go.RowKit
set_option linter.unusedVariables false

theorem own2At {w w' : World} {B C : Nat} {v : Value} {xss : List (List Int)} (hb : Below w.heap.size w w') (h : Own2 w B C v xss) : Own2 w' B C v xss := h.keep hb
theorem reads2At {w w' : World} {v : Value} {xss : List (List Int)} (hb : Below w.heap.size w w') (h : Reads2 w v xss) : Reads2 w' v xss := h.keep hb
theorem purseG {left z : Int} {xss : List (List Int)} (h : szZ2 left xss = z) (hz : ¬ z = -1) (hl : left ≤ 1048576) :
    xss.length ≤ 1048576 ∧ (∀ i, i < xss.length → (xss.getD i []).length ≤ 1048576) ∧ ((xss.length + sumLen xss xss.length : Nat) : Int) ≤ left ∧ 0 ≤ z ∧ z = left - (xss.length + sumLen xss xss.length : Nat) := by
  obtain ⟨h1, h2⟩ := szZ2_pos (by rw [h]; exact hz)
  refine ⟨by omega, fun i hi => ?_, h1, by omega, by omega⟩
  have := sumLen_mono xss (show i + 1 ≤ xss.length by omega)
  simp only [sumLen] at this
  omega
theorem In.monoI {w : World} {B C B' C' : Nat} {v : Value} {xs : List Int} (h : In w B C v xs) (hB : B' ≤ B) (hC : C ≤ C') : In w B' C' v xs := h.wide hB hC
theorem Owns.inAll {w : World} {B : Nat} {v : Value} {xs : List Int} (h : Owns w B v xs) : In w B w.heap.size v xs := In.of h (Nat.le_refl _) (Nat.le_refl _)
theorem toInt64S_x (va : Value) (xs : List Int) (w : World) (ha : Reads w va xs) (hn : xs.length ≤ 1048576) :
    Calls Try.prog 57 #[va] w fun e w' => ∃ u B C, e = .returned u ∧ In w' B C u xs ∧ w.heap.size ≤ B ∧ (B ≤ C ∧ C ≤ w'.heap.size) ∧ Below w.heap.size w w' := by
  refine (toInt64S_any va xs w ha hn).mono ?_
  rintro e w' ⟨u, rfl, h, hb⟩
  exact ⟨u, _, _, rfl, In.of h (Nat.le_refl _) (Nat.le_refl _), Nat.le_refl _, ⟨hb.size, Nat.le_refl _⟩, hb⟩
theorem toInt64SS_x (va : Value) (xss : List (List Int)) (w : World) (ha : Reads2 w va xss) (hn : xss.length ≤ 1048576) (hl : ∀ i, i < xss.length → (xss.getD i []).length ≤ 1048576) :
    Calls Try.prog 44 #[va] w fun e w' => ∃ u B C, e = .returned u ∧ Own2 w' B C u xss ∧ w.heap.size ≤ B ∧ (B ≤ C ∧ C ≤ w'.heap.size) ∧ Below w.heap.size w w' := by
  refine (toInt64SS_any va xss w ha hn hl).mono ?_
  rintro e w' ⟨u, rfl, h, hb⟩
  exact ⟨u, _, _, rfl, h, Nat.le_refl _, ⟨hb.size, Nat.le_refl _⟩, hb⟩
theorem szInt64SS_b (va : Value) (xss : List (List Int)) (left : Int) (w : World) (ha : Reads2 w va xss) (l0 : 0 ≤ left) (l1 : left ≤ 1048576) {z : Int} (hz : szZ2 left xss = z) :
    Calls Try.prog 42 #[va, .int .i64 left] w fun e w' => e = .returned (.int .i64 z) ∧ w = w' := by
  have := szInt64SS_any va xss left w ha l0 l1
  rwa [hz] at this

end Go.Proofs.Ytkdidplpnhokiaa
