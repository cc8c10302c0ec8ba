/- StraightSelector: both contracts. -/
import Derived.Test.YtbliibcfnfgdmaaDoorTtS
import Derived.Test.YtbliibcfnfgdmaaDoorAt
namespace Go.Proofs.YtbliibcfnfgdmaaDoor
open Go.RowKit
set_option linter.unusedVariables false

theorem small5_any (n : Nat) (w : World) (h : n < 5) :
    Calls Tryd.prog 37 #[.int .i64 (n : Int)] w fun e w' => e = .returned (.string (strZ [48 + (n : Int)])) ∧ w = w' := by
  rcases (show n = 0 ∨ n = 1 ∨ n = 2 ∨ n = 3 ∨ n = 4 by omega) with rfl | rfl | rfl | rfl | rfl <;>
  · go_enter Tryd.func37, Tryd.ntmps37
    go_wp2
    go_ret
    exact ⟨rfl, rfl⟩

theorem intFormat_any (n : Nat) (w : World) (h : n < 5) :
    Calls Tryd.prog 29 #[.int .i64 (n : Int), .int .i64 10] w fun e w' => e = .returned (.string (strZ [48 + (n : Int)])) ∧ w = w' := by
  have HS := Lib.hid (fun w => small5_any n w h)
  have h0 : (0 : Int) ≤ (n : Int) := by omega
  have h1 : (n : Int) < 100 := by omega
  generalize (n : Int) = x at *
  go_enter Tryd.func29, Tryd.ntmps29
  go_wp2_with (go_at_call 37; (with_reducible refine (HS.out _).mono ?_); rintro e w' ⟨rfl, rfl⟩)
  go_ret
  exact ⟨rfl, rfl⟩

theorem format_any (n : Nat) (w : World) (h : n < 5) :
    Calls Tryd.prog 21 #[.int .i64 (n : Int), .int .i64 10] w fun e w' => e = .returned (.string (strZ [48 + (n : Int)])) ∧ w = w' := by
  have HS := Lib.hid (fun w => intFormat_any n w h)
  generalize (n : Int) = x at *
  go_enter Tryd.func21, Tryd.ntmps21
  go_wp2_with (go_at_call 29; (with_reducible refine (HS.out _).mono ?_); rintro e w' ⟨rfl, rfl⟩)
  go_ret
  exact ⟨rfl, rfl⟩

/-- the signs of the straight selector for k inputs from i on -/
def sT : Nat → Nat → List Int
  | 0, _ => [46]
  | k + 1, i => [48 + (i : Int)] ++ sT k (i + 1) ++ sT k (i + 1)
theorem sT_len (k : Nat) : ∀ i, (sT k i).length + 1 = 2 ^ (k + 1) := by
  induction k with
  | zero => intro i; rfl
  | succ k ih =>
    intro i
    have := ih (i + 1)
    have e : 2 ^ (k + 1 + 1) = 2 * 2 ^ (k + 1) := by rw [Nat.pow_succ]; omega
    simp only [sT, List.length_append, List.length_cons, List.length_nil]
    omega
theorem sT_small {k : Nat} (h : k ≤ 5) (i : Nat) : (sT k i).length ≤ 63 := by
  have := sT_len k i
  have h2 : 2 ^ (k + 1) ≤ 2 ^ 6 := Nat.pow_le_pow_right (by decide) (by omega)
  omega

set_option maxRecDepth 100000 in
set_option maxHeartbeats 1000000 in
theorem straightFrom_any : ∀ (k i n : Nat) (w : World), i + k = n → n ≤ 5 →
    Calls Tryd.prog 15 #[.int .i64 (i : Int), .int .i64 (n : Int)] w fun e w' => e = .returned (.string (strZ (sT k i))) ∧ Below w.heap.size w w' := by
  intro k
  induction k with
  | zero =>
    intro i n w h hn
    have e : i = n := by omega
    subst e
    have HZ : Hid (strZ (sT 0 i) = ⟨#[46]⟩) := rfl
    generalize (i : Int) = x at *
    go_enter Tryd.func15, Tryd.ntmps15
    go_wp2
    go_ret
    exact ⟨by rw [HZ.out]; rfl, Below.refl _ _⟩
  | succ k ih =>
    intro i n w h hn
    have HC := Lib.hid (fun w => ih (i + 1) n w (by omega) hn)
    have HF := Lib.hid (fun w => format_any i w (by omega))
    have hs := sT_small (k := k) (by omega) (i + 1)
    have hz : (strZ (sT k (i + 1))).size ≤ 63 := by rw [strZ_size]; exact hs
    have hz1 : (strZ [48 + (i : Int)]).size = 1 := rfl
    have HV : Hid (strZ (sT (k + 1) i) = strZ [48 + (i : Int)] ++ strZ (sT k (i + 1)) ++ strZ (sT k (i + 1))) := by
      unfold Hid; rw [strZ_append, strZ_append]; rfl
    have e1 : ((i + 1 : Nat) : Int) = (i : Int) + 1 := by omega
    rw [e1] at HC
    have hne : ((i : Int) == (n : Int)) = false := by rw [beq_eq_false_iff_ne]; omega
    have hi9 : (i : Int) + 1 ≤ 100 := by omega
    have hi0 : 0 ≤ (i : Int) := by omega
    rw [HV.out]
    generalize strZ (sT k (i + 1)) = b at *
    generalize strZ [48 + (i : Int)] = d at *
    generalize (i : Int) = x at *
    generalize (n : Int) = y at *
    have hcat1 : ¬ 9223372036854775807 < d.size + b.size := by omega
    have hcat2 : ¬ 9223372036854775807 < d.size + b.size + b.size := by omega
    clear h hn hs e1 HV
    go_enter Tryd.func15, Tryd.ntmps15
    go_wp2_with (first | (go_at_call 15; (with_reducible refine (HC.out _).mono ?_); rintro e w1 ⟨rfl, hL⟩) | (go_at_call 21; (with_reducible refine (HF.out _).mono ?_); rintro e w2 ⟨rfl, rfl⟩))
    go_ret
    exact ⟨rfl, hL⟩

set_option maxRecDepth 100000 in
set_option maxHeartbeats 1000000 in
theorem l09Straight_any : ∀ (k i n : Nat) (w : World), i + k = n → n ≤ 5 →
    Calls Tryd.prog 13 #[.int .i64 (n : Int), .int .i64 (i : Int)] w fun e w' => e = .returned (.string (strZ (sT k i))) ∧ Below w.heap.size w w' := by
  intro k
  induction k with
  | zero =>
    intro i n w h hn
    have e : i = n := by omega
    subst e
    have HZ : Hid (strZ (sT 0 i) = ⟨#[46]⟩) := rfl
    generalize (i : Int) = x at *
    go_enter Tryd.func13, Tryd.ntmps13
    go_wp2
    go_ret
    exact ⟨by rw [HZ.out]; rfl, Below.refl _ _⟩
  | succ k ih =>
    intro i n w h hn
    have HC := Lib.hid (fun w => ih (i + 1) n w (by omega) hn)
    have HF := Lib.hid (fun w => l01Dec_any (i : Int) w (by omega) (by omega))
    have hs := sT_small (k := k) (by omega) (i + 1)
    have hz : (strZ (sT k (i + 1))).size ≤ 63 := by rw [strZ_size]; exact hs
    have hz1 : (strZ [48 + (i : Int)]).size = 1 := rfl
    have HV : Hid (strZ (sT (k + 1) i) = strZ [48 + (i : Int)] ++ strZ (sT k (i + 1)) ++ strZ (sT k (i + 1))) := by
      unfold Hid; rw [strZ_append, strZ_append]; rfl
    have e1 : ((i + 1 : Nat) : Int) = (i : Int) + 1 := by omega
    rw [e1] at HC
    have hne : ((n : Int) == (i : Int)) = false := by rw [beq_eq_false_iff_ne]; omega
    have hne' : ((i : Int) == (n : Int)) = false := by rw [beq_eq_false_iff_ne]; omega
    have hi9 : (i : Int) + 1 ≤ 100 := by omega
    have hi0 : 0 ≤ (i : Int) := by omega
    rw [HV.out]
    generalize strZ (sT k (i + 1)) = b at *
    generalize strZ [48 + (i : Int)] = d at *
    generalize (i : Int) = x at *
    generalize (n : Int) = y at *
    have hcat1 : ¬ 9223372036854775807 < d.size + b.size := by omega
    have hcat2 : ¬ 9223372036854775807 < d.size + b.size + b.size := by omega
    clear h hn hs e1 HV
    go_enter Tryd.func13, Tryd.ntmps13
    go_wp2_with (first | (go_at_call 13; (with_reducible refine (HC.out _).mono ?_); rintro e w1 ⟨rfl, hL⟩) | (go_at_call 20; (with_reducible refine (HF.out _).mono ?_); rintro e w2 ⟨rfl, hb⟩; replace hL := chain (B := w.heap.size) (a := w) hL (Nat.le_refl _) hb; clear hb))
    go_ret
    exact ⟨rfl, hL⟩

def resStraightSelector_0 (n : Int) : ByteArray := if 1 ≤ n ∧ n ≤ 5 then strZ (sT n.toNat 0) else ByteArray.empty
def resStraightSelector_1 (n : Int) : Int := if 1 ≤ n ∧ n ≤ 5 then 0 else 2

set_option maxRecDepth 100000 in
set_option maxHeartbeats 1000000 in
theorem iStraightSelector_any (n : Int) (w : World) :
    Calls Tryd.prog 6 #[.int .i64 n] w fun e w' => e = .returned (.tuple #[.string (resStraightSelector_0 n), .int .i64 (resStraightSelector_1 n)]) ∧ Below w.heap.size w w' := by
  unfold resStraightSelector_0 resStraightSelector_1
  by_cases h : 1 ≤ n ∧ n ≤ 5
  · rw [if_pos h, if_pos h]
    have HI := Lib.hid (fun w => isInputCount_yes n w h.1 h.2)
    have HS : Hid (∀ w, Calls Tryd.prog 15 #[.int .i64 0, .int .i64 n] w fun e w' => e = .returned (.string (strZ (sT n.toNat 0))) ∧ Below w.heap.size w w') := fun w => by
      have := straightFrom_any n.toNat 0 n.toNat w (by omega) (by omega)
      rwa [show ((n.toNat : Nat) : Int) = n by omega] at this
    generalize strZ (sT n.toNat 0) = R at *
    clear h
    go_enter Tryd.func6, Tryd.ntmps6
    go_wp2_with (first | (go_at_call 14; (with_reducible refine (HI.out _).mono ?_); rintro e w' ⟨rfl, rfl⟩) | (go_at_call 15; (with_reducible refine (HS.out _).mono ?_); rintro e w1 ⟨rfl, hL⟩))
    go_ret2
    exact ⟨rfl, hL⟩
  · rw [if_neg h, if_neg h]
    have HI := Lib.hid (fun w => isInputCount_no n w (by omega))
    clear h
    go_enter Tryd.func6, Tryd.ntmps6
    go_wp2_with ((go_at_call 14; (with_reducible refine (HI.out _).mono ?_); rintro e w' ⟨rfl, rfl⟩))
    go_ret2
    exact ⟨rfl, Below.refl _ _⟩

set_option maxRecDepth 100000 in
set_option maxHeartbeats 1000000 in
theorem sStraightSelector_any (n : Int) (w : World) :
    Calls Tryd.prog 5 #[.int .i64 n] w fun e w' => e = .returned (.tuple #[.string (resStraightSelector_0 n), .int .i64 (resStraightSelector_1 n)]) ∧ Below w.heap.size w w' := by
  unfold resStraightSelector_0 resStraightSelector_1
  by_cases h : 1 ≤ n ∧ n ≤ 5
  · rw [if_pos h, if_pos h]
    have HI := Lib.hid (fun w => l01In_yes n 1 5 w h)
    have HS : Hid (∀ w, Calls Tryd.prog 13 #[.int .i64 n, .int .i64 0] w fun e w' => e = .returned (.string (strZ (sT n.toNat 0))) ∧ Below w.heap.size w w') := fun w => by
      have := l09Straight_any n.toNat 0 n.toNat w (by omega) (by omega)
      rwa [show ((n.toNat : Nat) : Int) = n by omega] at this
    generalize strZ (sT n.toNat 0) = R at *
    clear h
    go_enter Tryd.func5, Tryd.ntmps5
    go_wp2_with (first | (go_at_call 12; (with_reducible refine (HI.out _).mono ?_); rintro e w' ⟨rfl, rfl⟩) | (go_at_call 13; (with_reducible refine (HS.out _).mono ?_); rintro e w1 ⟨rfl, hL⟩))
    go_ret2
    exact ⟨rfl, hL⟩
  · rw [if_neg h, if_neg h]
    have HI := Lib.hid (fun w => l01In_no n 1 5 w h)
    clear h
    go_enter Tryd.func5, Tryd.ntmps5
    go_wp2_with ((go_at_call 12; (with_reducible refine (HI.out _).mono ?_); rintro e w' ⟨rfl, rfl⟩))
    go_ret2
    exact ⟨rfl, Below.refl _ _⟩

end Go.Proofs.YtbliibcfnfgdmaaDoor
