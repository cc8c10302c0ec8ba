/- Plain mathematics of networks: lists compared, contacts, networks. -/
import Derived.Test.YtkdidplpnhokiaaMath
namespace Go.Proofs.Ytkdidplpnhokiaa
open Go.RowKit
set_option linter.unusedVariables false

/-- lists compared lexicographically -/
def cmpL : List Int → List Int → Int
  | [], [] => 0
  | [], _ :: _ => -1
  | _ :: _, [] => 1
  | x :: xs, y :: ys => if x < y then -1 else if y < x then 1 else cmpL xs ys
theorem cmpL_bd (xs ys : List Int) : cmpL xs ys = -1 ∨ cmpL xs ys = 0 ∨ cmpL xs ys = 1 := by
  induction xs generalizing ys with
  | nil => cases ys <;> simp [cmpL]
  | cons x xs ih =>
    cases ys with
    | nil => simp [cmpL]
    | cons y ys =>
      simp only [cmpL]
      split
      · simp
      · split
        · simp
        · exact ih ys
theorem cmpL_drop {xs ys : List Int} {k : Nat} (hx : k < xs.length) (hy : k < ys.length) :
    cmpL (xs.drop k) (ys.drop k) = if xs.getD k 0 < ys.getD k 0 then -1 else if ys.getD k 0 < xs.getD k 0 then 1 else cmpL (xs.drop (k + 1)) (ys.drop (k + 1)) := by
  rw [List.drop_eq_getElem_cons hx, List.drop_eq_getElem_cons hy]
  simp only [cmpL, List.getD_eq_getElem?_getD, List.getElem?_eq_getElem hx, List.getElem?_eq_getElem hy, Option.getD_some]

/-- a contact of a network of p points -/
def Con (p : Int) (c : List Int) : Prop :=
  c.length = 4 ∧ 0 ≤ c.getD 0 0 ∧ c.getD 0 0 < c.getD 1 0 ∧ c.getD 1 0 < p ∧ (0 ≤ c.getD 2 0 ∧ c.getD 2 0 < 5) ∧ (0 ≤ c.getD 3 0 ∧ c.getD 3 0 < 2)
instance (p : Int) (c : List Int) : Decidable (Con p c) := by unfold Con; infer_instance
theorem con_iff (p a b c d : Int) : Con p [a, b, c, d] ↔ 0 ≤ a ∧ a < b ∧ b < p ∧ (0 ≤ c ∧ c < 5) ∧ (0 ≤ d ∧ d < 2) := by
  unfold Con; simp
/-- the contact i as a network wants it -/
def okC (p : Int) (xss : List (List Int)) (i : Nat) : Prop := Con p (xss.getD i []) ∧ (0 < i → 0 ≤ cmpL (xss.getD i []) (xss.getD (i - 1) []))
instance (p : Int) (xss : List (List Int)) : DecidablePred (okC p xss) := fun i => by unfold okC; infer_instance
def Net (p : Int) (xss : List (List Int)) : Prop := 2 ≤ p ∧ p ≤ 8 ∧ xss.length ≤ 12 ∧ ∀ i, i < xss.length → okC p xss i
instance (p : Int) (xss : List (List Int)) : Decidable (Net p xss) := by unfold Net; infer_instance

theorem firstBad (P : Nat → Prop) [DecidablePred P] (n : Nat) : ∃ j, j ≤ n ∧ (∀ i, i < j → P i) ∧ (j < n → ¬ P j) := by
  induction n with
  | zero => exact ⟨0, Nat.le_refl _, fun i hi => by omega, fun h => by omega⟩
  | succ n ih =>
    obtain ⟨j, hj, hall, hbad⟩ := ih
    rcases Nat.lt_or_ge j n with h | h
    · exact ⟨j, by omega, hall, fun _ => hbad h⟩
    · have e : j = n := by omega
      subst e
      by_cases hp : P j
      · refine ⟨j + 1, Nat.le_refl _, fun i hi => ?_, fun h => by omega⟩
        rcases Nat.lt_or_ge i j with h1 | h1
        · exact hall i h1
        · have : i = j := by omega
          subst this; exact hp
      · exact ⟨j, by omega, hall, fun _ => hp⟩

theorem list4 {xs : List Int} (h : xs.length = 4) : ∃ a b c d, xs = [a, b, c, d] := by
  match xs, h with
  | [a, b, c, d], _ => exact ⟨a, b, c, d, rfl⟩

end Go.Proofs.Ytkdidplpnhokiaa
