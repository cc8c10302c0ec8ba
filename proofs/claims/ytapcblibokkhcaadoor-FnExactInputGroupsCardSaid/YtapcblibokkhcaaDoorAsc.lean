/- TableOfRows: ascending lists, and the program's. -/
import Derived.Test.YtapcblibokkhcaaDoorCopy
namespace Go.Proofs.YtapcblibokkhcaaDoor
open Go.RowKit
set_option linter.unusedVariables false

/-- is the element i of a list as an ascending list below l wants it -/
def okAt (l : Int) (xs : List Int) (i : Nat) : Prop := (0 ≤ xs.getD i 0 ∧ xs.getD i 0 < l) ∧ (0 < i → xs.getD (i - 1) 0 < xs.getD i 0)
instance (l : Int) (xs : List Int) (i : Nat) : Decidable (okAt l xs i) := by unfold okAt; infer_instance
/-- an ascending list of numbers below l -/
def ascB (l : Int) (xs : List Int) : Prop := ∀ i, i < xs.length → okAt l xs i
theorem first_bad (l : Int) (xs : List Int) (h : ¬ ascB l xs) : ∃ j, j < xs.length ∧ (∀ i, i < j → okAt l xs i) ∧ ¬ okAt l xs j := by
  have main : ∀ m, m ≤ xs.length → (∀ i, i < m → okAt l xs i) ∨ ∃ j, j < xs.length ∧ (∀ i, i < j → okAt l xs i) ∧ ¬ okAt l xs j := by
    intro m
    induction m with
    | zero => intro _; left; intro i hi; omega
    | succ m ih =>
      intro hm
      rcases ih (by omega) with hall | hbad
      · by_cases hk : okAt l xs m
        · left; intro i hi
          rcases Nat.lt_or_ge i m with h1 | h1
          · exact hall i h1
          · have : i = m := by omega
            subst this; exact hk
        · right; exact ⟨m, by omega, hall, hk⟩
      · right; exact hbad
  rcases main xs.length (Nat.le_refl _) with hall | hbad
  · exact absurd hall h
  · exact hbad

instance (l : Int) (xs : List Int) : Decidable (ascB l xs) := by unfold ascB; infer_instance

/-- the values of the table with 1 in the first k rows of a list -/
def orTo (xs : List Int) : Nat → Int
  | 0 => 0
  | k + 1 => bits .or .i64 (orTo xs k) (wrap64 (2 ^ (xs.getD k 0).toNat))
/-- what TableOfRows gives -/
def torRes (n : Int) (xs : List Int) : Value :=
  if (1 ≤ n ∧ n ≤ 5) ∧ ascB (rcZ n) xs then .tuple #[.agg #[.int .i64 n, .int .i64 (orTo xs xs.length)], .int .i64 0] else .tuple #[.agg #[.int .i64 0, .int .i64 0], .int .i64 2]
theorem torRes_cases (n : Int) (xs : List Int) : ∃ a b c : Int, torRes n xs = .tuple #[.agg #[.int .i64 a, .int .i64 b], .int .i64 c] := by
  unfold torRes; split <;> exact ⟨_, _, _, rfl⟩

theorem readsAt {w w' : World} {v : Value} {xs : List Int} (hb : Below w.heap.size w w') (h : Reads w v xs) : Reads w' v xs := h.keep hb

end Go.Proofs.YtapcblibokkhcaaDoor
