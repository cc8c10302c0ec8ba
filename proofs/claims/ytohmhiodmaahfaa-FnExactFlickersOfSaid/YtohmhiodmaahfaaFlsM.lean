/- The flickers of a formula, in order (plain mathematics). -/
import Derived.Test.YtohmhiodmaahfaaFlk
import Derived.Test.YtohmhiodmaahfaaGro2
namespace Go.Proofs.Ytohmhiodmaahfaa
open Go.RowKit
set_option linter.unusedVariables false

theorem low_same : ∀ (r : Fin 32) (i : Fin 5), (dig r i = 1 ∨ dig r i = 0) ∧ (dig r i = 1 → highN r i = r.val) ∧ (dig r i = 0 → lowN r i = r.val ∧ highN r i ≠ r.val) := by decide +kernel
/-- the flicker for an input in a row: its kind, and whether there is one -/
def flv (t : Fm) (row i : Nat) : Int × Bool := if digZ (row : Int) (i : Int) = 1 then (0, false) else flk (b2i (valF (leafV (digZ (lowR row i))) t)) (b2i (valF (leafV (digZ (highR row i))) t)) (b2i (valF (momV row i false) t)) (b2i (valF (momV row i true) t))
def flRow (t : Fm) (row j : Nat) : List (List Int) := ((List.range j).filter fun i => (flv t row i).2).map fun (i : Nat) => [(row : Int), (i : Int), (flv t row i).1]
def flTo (t : Fm) (n k : Nat) : List (List Int) := (List.range k).flatMap fun row => flRow t row n
theorem flRow_hit {t : Fm} {row j : Nat} (h : (flv t row j).2 = true) : flRow t row (j + 1) = flRow t row j ++ [[(row : Int), (j : Int), (flv t row j).1]] := by
  unfold flRow; rw [List.range_succ, List.filter_append, List.map_append]; simp [h]
theorem flRow_miss {t : Fm} {row j : Nat} (h : (flv t row j).2 = false) : flRow t row (j + 1) = flRow t row j := by
  unfold flRow; rw [List.range_succ, List.filter_append, List.map_append]; simp [h]
theorem flRow_len (t : Fm) (row j : Nat) : (flRow t row j).length ≤ j := by
  unfold flRow; rw [List.length_map]
  have := List.length_filter_le (fun i => (flv t row i).2) (List.range j)
  rwa [List.length_range] at this
theorem flTo_succ (t : Fm) (n k : Nat) : flTo t n (k + 1) = flTo t n k ++ flRow t k n := by
  unfold flTo; rw [List.range_succ, List.flatMap_append]; simp
theorem flTo_len (t : Fm) (n : Nat) (h : n ≤ 5) (k : Nat) : (flTo t n k).length ≤ 5 * k := by
  induction k with
  | zero => exact Nat.le_refl _
  | succ k ih => rw [flTo_succ, List.length_append]; have := flRow_len t k n; omega
theorem flTo_three (t : Fm) (n k : Nat) : ∀ r ∈ flTo t n k, r.length ≤ 3 := by
  intro r hr
  unfold flTo at hr
  obtain ⟨i, _, h⟩ := List.mem_flatMap.1 hr
  unfold flRow at h
  obtain ⟨s, _, rfl⟩ := List.mem_map.1 h
  exact Nat.le_refl _
theorem flTo_short (t : Fm) (n k : Nat) (hn : n ≤ 5) (hk : k ≤ 32) : (flTo t n k).length ≤ 100000 ∧ (flTo t n k).length + sumLen (flTo t n k) (flTo t n k).length ≤ 1000000 ∧ ∀ i, i < (flTo t n k).length → ((flTo t n k).getD i []).length ≤ 1048576 := by
  have := flTo_len t n hn k
  exact short (flTo_three t n k) (by decide) (by omega)
theorem flv_one {t : Fm} {row i : Nat} (h : digZ (row : Int) (i : Int) = 1) : flv t row i = (0, false) := if_pos h
theorem flv_zero {t : Fm} {row i : Nat} (h : digZ (row : Int) (i : Int) = 0) : flv t row i = flk (b2i (valF (leafV (digZ (lowR row i))) t)) (b2i (valF (leafV (digZ (highR row i))) t)) (b2i (valF (momV row i false) t)) (b2i (valF (momV row i true) t)) := if_neg (by omega)
theorem b2i_bit (b : Bool) : b2i b = 0 ∨ b2i b = 1 := by cases b; exact .inl rfl; exact .inr rfl

end Go.Proofs.Ytohmhiodmaahfaa
