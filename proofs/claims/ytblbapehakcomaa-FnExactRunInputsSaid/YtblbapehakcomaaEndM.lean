/- Numbers in order: mathematics. -/
import Derived.Test.YtblbapehakcomaaSrt
namespace Go.Proofs.Ytblbapehakcomaa
open Go.RowKit
set_option linter.unusedVariables false

/-- the numbers below M for which P holds -/
def ups (M : Nat) (P : Nat → Bool) : List Nat := (List.range M).filter P
theorem ups_hit {k : Nat} {P : Nat → Bool} (h : P k = true) : ups (k + 1) P = ups k P ++ [k] := by simp [ups, List.range_succ, h]
theorem ups_miss {k : Nat} {P : Nat → Bool} (h : P k = false) : ups (k + 1) P = ups k P := by simp [ups, List.range_succ, h]
theorem ups_len (M : Nat) (P : Nat → Bool) : (ups M P).length ≤ M := by
  have := List.length_filter_le P (List.range M); simpa [ups] using this
theorem asc_ups {M : Nat} {R : List Nat} {P : Nat → Bool} (hn : R.Nodup) (hR : ∀ s, s ∈ R ↔ s < M ∧ P s = true) : ascL (intsN R) = intsN (ups M P) := by
  have hp : R.Perm (ups M P) := by
    refine (List.perm_ext_iff_of_nodup hn (List.Nodup.sublist List.filter_sublist List.nodup_range)).2 fun s => ?_
    rw [hR s]; simp
  refine List.Perm.eq_of_pairwise (le := fun a b : Int => decide (a ≤ b) = true) (fun a b _ _ h1 h2 => by simp at h1 h2; omega) ?_ ?_ ?_
  · exact List.pairwise_mergeSort (fun a b c h1 h2 => by simp at *; omega) (fun a b => by simp; omega) _
  · unfold intsN ups
    rw [List.pairwise_map]
    exact (List.Pairwise.sublist List.filter_sublist List.pairwise_lt_range).imp fun h => by simp; omega
  · exact (List.mergeSort_perm _ _).trans (hp.map _)

end Go.Proofs.Ytblbapehakcomaa
