/- StraightSelector: both contracts. -/
import Derived.Test.YtkojdaafgbfioaaDoorTtS
import Derived.Test.YtkojdaafgbfioaaDoorAt
namespace Go.Proofs.YtkojdaafgbfioaaDoor
open Go.RowKit
set_option linter.unusedVariables false

theorem small5_any (n : Nat) (w : World) (h : n < 5) :
    Calls Tryd.prog 58 #[.int .i64 (n : Int)] w fun e w' => e = .returned (.string (strZ [48 + (n : Int)])) ∧ w = w' := by
  rcases (show n = 0 ∨ n = 1 ∨ n = 2 ∨ n = 3 ∨ n = 4 by omega) with rfl | rfl | rfl | rfl | rfl <;>
  · go_enter Tryd.func58, Tryd.ntmps58
    go_wp2
    go_ret
    exact ⟨rfl, rfl⟩

theorem intFormat_any (n : Nat) (w : World) (h : n < 5) :
    Calls Tryd.prog 41 #[.int .i64 (n : Int), .int .i64 10] w fun e w' => e = .returned (.string (strZ [48 + (n : Int)])) ∧ w = w' := by
  have HS := Lib.hid (fun w => small5_any n w h)
  have h0 : (0 : Int) ≤ (n : Int) := by omega
  have h1 : (n : Int) < 100 := by omega
  generalize (n : Int) = x at *
  go_enter Tryd.func41, Tryd.ntmps41
  go_wp2_with (go_at_call 58; (with_reducible refine (HS.out _).mono ?_); rintro e w' ⟨rfl, rfl⟩)
  go_ret
  exact ⟨rfl, rfl⟩

theorem format_any (n : Nat) (w : World) (h : n < 5) :
    Calls Tryd.prog 34 #[.int .i64 (n : Int), .int .i64 10] w fun e w' => e = .returned (.string (strZ [48 + (n : Int)])) ∧ w = w' := by
  have HS := Lib.hid (fun w => intFormat_any n w h)
  generalize (n : Int) = x at *
  go_enter Tryd.func34, Tryd.ntmps34
  go_wp2_with (go_at_call 41; (with_reducible refine (HS.out _).mono ?_); rintro e w' ⟨rfl, rfl⟩)
  go_ret
  exact ⟨rfl, rfl⟩

/-- the signs of the straight selector for k inputs from i on -/
def sT : Nat → Nat → List Int
  | 0, _ => [46]
  | k + 1, i => [48 + (i : Int)] ++ sT k (i + 1) ++ sT k (i + 1)
theorem sT_len (k : Nat) : ∀ i, (sT k i).length + 1 = 2 ^ (k + 1) := by
  induction k with
  | zero => intro i; rfl
  | succ k ih =>
    intro i
    have := ih (i + 1)
    have e : 2 ^ (k + 1 + 1) = 2 * 2 ^ (k + 1) := by rw [Nat.pow_succ]; omega
    simp only [sT, List.length_append, List.length_cons, List.length_nil]
    omega
theorem sT_small {k : Nat} (h : k ≤ 5) (i : Nat) : (sT k i).length ≤ 63 := by
  have := sT_len k i
  have h2 : 2 ^ (k + 1) ≤ 2 ^ 6 := Nat.pow_le_pow_right (by decide) (by omega)
  omega

def resStraightSelector_0 (n : Int) : ByteArray := if 1 ≤ n ∧ n ≤ 5 then strZ (sT n.toNat 0) else ByteArray.empty
def resStraightSelector_1 (n : Int) : Int := if 1 ≤ n ∧ n ≤ 5 then 0 else 2

end Go.Proofs.YtkojdaafgbfioaaDoor
