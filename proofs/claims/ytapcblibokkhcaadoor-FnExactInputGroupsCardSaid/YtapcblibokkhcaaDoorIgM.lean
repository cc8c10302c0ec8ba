/- InputGroups: the groups as the model finds them (plain mathematics). -/
import Derived.Test.YtapcblibokkhcaaDoorGrM
namespace Go.Proofs.YtapcblibokkhcaaDoor
open Go.RowKit
set_option linter.unusedVariables false

/-- the groups of all n inputs whose least ones are below i -/
def grpsTo (al : Nat → Nat → Bool) (n i : Nat) : List (List Int) := (lstL al i).map (rowG al n)
theorem grpsTo_all (al : Nat → Nat → Bool) (n : Nat) : grpsTo al n n = grps al n := rfl
theorem grpsTo_hit {al : Nat → Nat → Bool} {n i : Nat} (h : lst al i = true) : grpsTo al n (i + 1) = grpsTo al n i ++ [rowG al n i] := by
  unfold grpsTo; rw [lstL_succ, if_pos h, List.map_append]; rfl
theorem grpsTo_miss {al : Nat → Nat → Bool} {n i : Nat} (h : lst al i = false) : grpsTo al n (i + 1) = grpsTo al n i := by
  unfold grpsTo; rw [lstL_succ, if_neg (by rw [h]; simp)]
theorem grpsTo_len (al : Nat → Nat → Bool) (n i : Nat) : (grpsTo al n i).length ≤ i := by
  unfold grpsTo; rw [List.length_map]; exact lstL_len al i
/-- is the input a met, when the groups with least inputs below i are found -/
def metB (al : Nat → Nat → Bool) : Nat → Nat → Bool
  | 0, _ => false
  | i + 1, a => metB al i a || (lst al i && decide (i ≤ a) && al i a)
theorem metB_iff {al : Nat → Nat → Bool} {i a : Nat} : metB al i a = true ↔ ∃ m, m < i ∧ lst al m = true ∧ m ≤ a ∧ al m a = true := by
  induction i with
  | zero => simp [metB]
  | succ i ih =>
    simp only [metB, Bool.or_eq_true, Bool.and_eq_true, decide_eq_true_iff, ih]
    constructor
    · rintro (⟨m, h1, h2, h3, h4⟩ | ⟨⟨h1, h2⟩, h3⟩)
      · exact ⟨m, by omega, h2, h3, h4⟩
      · exact ⟨i, by omega, h1, h2, h3⟩
    · rintro ⟨m, h1, h2, h3, h4⟩
      by_cases e : m = i
      · subst e; exact .inr ⟨⟨h2, h3⟩, h4⟩
      · exact .inl ⟨m, by omega, h2, h3, h4⟩
/-- an input is met just if it is no least one -/
theorem metB_self {al : Nat → Nat → Bool} {n i : Nat} (E : Equiv al n) (hi : i < n) : metB al i i = !lst al i := by
  rw [Bool.eq_iff_iff, metB_iff]
  constructor
  · rintro ⟨m, h1, _, _, h4⟩
    cases h : lst al i
    · rfl
    · rw [lst_iff.1 h m h1] at h4; cases h4
  · intro h
    have h : lst al i = false := by simpa using h
    obtain ⟨m, h1, h2, h3⟩ := least_of E i hi
    have : m ≠ i := fun e => by rw [e, h] at h2; cases h2
    exact ⟨m, by omega, h2, h1, h3⟩
theorem metB_miss {al : Nat → Nat → Bool} {i : Nat} (h : lst al i = false) (a : Nat) : metB al (i + 1) a = metB al i a := by
  simp [metB, h]
/-- .. and when the members below j of the group of i are found -/
def metP (al : Nat → Nat → Bool) (i j a : Nat) : Bool := metB al i a || (decide (i ≤ a) && decide (a < j) && al i a)
theorem metP_start (al : Nat → Nat → Bool) (i a : Nat) : metP al i i a = metB al i a := by
  unfold metP
  by_cases h : i ≤ a
  · have : ¬ a < i := by omega
    simp [this]
  · simp [h]
theorem metP_all {al : Nat → Nat → Bool} {n i a : Nat} (h : lst al i = true) (ha : a < n) : metP al i n a = metB al (i + 1) a := by
  simp [metP, metB, h, ha]
theorem metP_new {al : Nat → Nat → Bool} {i j : Nat} (hij : i ≤ j) (h : al i j = true) : metP al i (j + 1) j = true := by
  simp [metP, h, hij]
theorem metP_old {al : Nat → Nat → Bool} {i j a : Nat} (h : a ≠ j) : metP al i (j + 1) a = metP al i j a := by
  unfold metP
  have : decide (a < j + 1) = decide (a < j) := by
    rw [Bool.eq_iff_iff, decide_eq_true_iff, decide_eq_true_iff]; omega
  rw [this]
theorem metP_skip {al : Nat → Nat → Bool} {i j : Nat} (h : al i j = false) (a : Nat) : metP al i (j + 1) a = metP al i j a := by
  by_cases e : a = j
  · subst e; simp [metP, h]
  · exact metP_old e
theorem rowG_start (al : Nat → Nat → Bool) (i : Nat) : rowG al i i = [] := by
  unfold rowG
  rw [List.map_eq_nil_iff, List.filter_eq_nil_iff]
  intro j hj
  have := List.mem_range.1 hj
  simp; omega
theorem rowG_len (al : Nat → Nat → Bool) (k i : Nat) : (rowG al k i).length ≤ k := by
  unfold rowG
  rw [List.length_map]
  have := List.length_filter_le (fun j => decide (i ≤ j) && al i j) (List.range k)
  simpa using this

end Go.Proofs.YtapcblibokkhcaaDoor
