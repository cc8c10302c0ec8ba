/- Slices of slices of int64: how they read, weighed, compared. -/
import Derived.Test.YtkojdaafgbfioaaDoorCopy
namespace Go.Proofs.YtkojdaafgbfioaaDoor
open Go.RowKit
set_option linter.unusedVariables false

/-- how many numbers the first k lists have -/
def sumLen (xss : List (List Int)) : Nat → Nat
  | 0 => 0
  | k + 1 => sumLen xss k + (xss.getD k []).length
theorem sumLen_mono (xss : List (List Int)) {a b : Nat} (h : a ≤ b) : sumLen xss a ≤ sumLen xss b := by
  induction b with
  | zero => have : a = 0 := by omega
            subst this; exact Nat.le_refl _
  | succ b ih =>
    rcases Nat.lt_or_ge a (b + 1) with h1 | h1
    · have := ih (by omega); simp only [sumLen]; omega
    · have : a = b + 1 := by omega
      subst this; exact Nat.le_refl _

/-- the slice v reads as the lists xss -/
def Reads2 (w : World) (v : Value) (xss : List (List Int)) : Prop :=
  ∃ (a : Option Addr) (cap : Nat), v = .slice a xss.length cap ∧ xss.length ≤ maxLen ∧
    (xss = [] ∨ ∃ b off, a = some ⟨b, off, none⟩ ∧ ∀ i, i < xss.length → ∃ u, w.cell? ⟨b, off + i, none⟩ = some u ∧ Reads w u (xss.getD i []))
theorem Reads2.keep {w w' : World} {v : Value} {xss : List (List Int)} (h : Reads2 w v xss) (hb : Below w.heap.size w w') : Reads2 w' v xss := by
  obtain ⟨a, cap, rfl, hm, h⟩ := h
  refine ⟨a, cap, rfl, hm, ?_⟩
  rcases h with h | ⟨b, off, rfl, h⟩
  · exact .inl h
  · refine .inr ⟨b, off, rfl, fun i hi => ?_⟩
    obtain ⟨u, hu, hr⟩ := h i hi
    exact ⟨u, cell_later hb hu, hr.keep hb⟩
theorem Reads.len {w : World} {v : Value} {xs : List Int} (h : Reads w v xs) : xs.length ≤ maxLen := by
  obtain ⟨_, _, _, h, _⟩ := h; exact h

/-- what is left of a purse behind a list -/
def szZ (left : Int) (n : Nat) : Int := if left < n then -1 else left - n

/-- what is left of a purse behind lists -/
def szZ2 (left : Int) (xss : List (List Int)) : Int := if left < (xss.length + sumLen xss xss.length : Nat) then -1 else left - (xss.length + sumLen xss xss.length : Nat)
theorem szZ2_neg {left : Int} {xss : List (List Int)} {k : Nat} (hk : k ≤ xss.length) (h : left < (xss.length + sumLen xss k : Nat)) : szZ2 left xss = -1 := by
  unfold szZ2
  have := sumLen_mono xss hk
  rw [if_pos (by omega)]
theorem szZ2_pos {left : Int} {xss : List (List Int)} (h : szZ2 left xss ≠ -1) : ((xss.length + sumLen xss xss.length : Nat) : Int) ≤ left ∧ szZ2 left xss = left - (xss.length + sumLen xss xss.length : Nat) := by
  unfold szZ2 at *
  split at h
  · exact absurd rfl h
  · rename_i hh
    rw [if_neg hh]; omega

end Go.Proofs.YtkojdaafgbfioaaDoor
