/- The first place at which something holds. -/
import Derived.Test.YtkdidplpnhokiaaMath
namespace Go.Proofs.Ytkdidplpnhokiaa

theorem firstB (P : Nat → Bool) (n : Nat) : ∃ j, j ≤ n ∧ (∀ i, i < j → P i = false) ∧ (j < n → P j = true) := by
  induction n with
  | zero => exact ⟨0, Nat.le_refl _, fun i hi => absurd hi (Nat.not_lt_zero i), fun h => absurd h (Nat.lt_irrefl _)⟩
  | succ n ih =>
    obtain ⟨j, h1, h2, h3⟩ := ih
    by_cases e : j < n
    · exact ⟨j, by omega, h2, fun _ => h3 e⟩
    · have ej : j = n := by omega
      subst ej
      cases hp : P j
      · refine ⟨j + 1, Nat.le_refl _, fun i hi => ?_, fun h => absurd h (Nat.lt_irrefl _)⟩
        rcases Nat.lt_or_ge i j with h | h
        · exact h2 i h
        · have e2 : i = j := by omega
          subst e2; exact hp
      · exact ⟨j, by omega, h2, fun _ => hp⟩

end Go.Proofs.Ytkdidplpnhokiaa
