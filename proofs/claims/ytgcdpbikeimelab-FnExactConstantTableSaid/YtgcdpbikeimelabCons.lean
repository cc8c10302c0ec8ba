/- ConstantTable: the program's and the model's. -/
import Derived.Test.YtgcdpbikeimelabSPart
namespace Go.Proofs.Ytgcdpbikeimelab
open Go.RowKit
set_option linter.unusedVariables false

/-- what ConstantTable gives -/
def consRes (n v : Int) : Value := if (1 ≤ n ∧ n ≤ 5) ∧ 0 ≤ v ∧ v < 2 then .tuple #[.agg #[.int .i64 n, .int .i64 (wrap64 (v * fullZ n))], .int .i64 0] else .tuple #[.agg #[.int .i64 0, .int .i64 0], .int .i64 2]
theorem consRes_cases (n v : Int) : ∃ a b c : Int, consRes n v = .tuple #[.agg #[.int .i64 a, .int .i64 b], .int .i64 c] := by
  unfold consRes; split <;> exact ⟨_, _, _, rfl⟩

theorem iConstantTable_any (n v : Int) (w : World) :
    Calls Try.prog 34 #[.int .i64 n, .int .i64 v] w fun e w' => e = .returned (consRes n v) ∧ Below w.heap.size w w' := by
  have k0 : C2 (w.alloc (.cells #[.int .i64 0, .int .i64 0] 27)) (w.heap.size) (.int .i64 0) (.int .i64 0) := by simpa using C2.here w (.int .i64 0) (.int .i64 0) 27
  by_cases hn : 1 ≤ n ∧ n ≤ 5
  · have Hn : Hid (1 ≤ n ∧ n ≤ 5) := hn
    by_cases hv : 0 ≤ v ∧ v < 2
    · have hr : Hid (consRes n v = .tuple #[.agg #[.int .i64 n, .int .i64 (wrap64 (v * fullZ n))], .int .i64 0]) := by unfold Hid consRes; rw [if_pos ⟨hn, hv⟩]
      have Hv : Hid (0 ≤ v ∧ v < 2) := ⟨hv.1, by omega⟩
      obtain ⟨h1, h5⟩ := hn
      clear hv
      go_enter Try.func34, Try.ntmps34
      go_wp2_with (first | (go_at_call 62; (with_reducible refine (isInputCount_yes _ _ h1 h5).mono ?_); rintro e w' ⟨rfl, rfl⟩) | (go_at_call 53; (with_reducible refine (isBelow_yes _ _ _ Hv.out).mono ?_); rintro e w' ⟨rfl, rfl⟩) | (go_at_call 63; (with_reducible refine (allRows_any _ _ h1 h5).mono ?_); rintro e w' ⟨rfl, rfl⟩))
      refine bodyPost_ret (v := .tuple #[.agg #[.int .i64 n, .int .i64 (wrap64 (v * fullZ n))], .int .i64 0]) (by simp [results, Try.results34, go_sem, *]) rfl ?_
      exact ⟨by rw [hr.out], by go_grown⟩
    · have hr : Hid (consRes n v = .tuple #[.agg #[.int .i64 0, .int .i64 0], .int .i64 2]) := by unfold Hid consRes; rw [if_neg (fun h => hv h.2)]
      have Hv : Hid (¬ (0 ≤ v ∧ v < 2)) := by unfold Hid; omega
      obtain ⟨h1, h5⟩ := hn
      clear hv
      go_enter Try.func34, Try.ntmps34
      go_wp2_with (first | (go_at_call 62; (with_reducible refine (isInputCount_yes _ _ h1 h5).mono ?_); rintro e w' ⟨rfl, rfl⟩) | (go_at_call 53; (with_reducible refine (isBelow_no _ _ _ Hv.out).mono ?_); rintro e w' ⟨rfl, rfl⟩))
      refine bodyPost_ret (v := .tuple #[.agg #[.int .i64 0, .int .i64 0], .int .i64 2]) (by simp [results, Try.results34, go_sem, *]) rfl ?_
      exact ⟨by rw [hr.out], by go_grown⟩
  · have hr : Hid (consRes n v = .tuple #[.agg #[.int .i64 0, .int .i64 0], .int .i64 2]) := by unfold Hid consRes; rw [if_neg (fun h => hn h.1)]
    have Hn : Hid (n < 1 ∨ 5 < n) := by unfold Hid; omega
    clear hn
    go_enter Try.func34, Try.ntmps34
    go_wp2_with (first | (go_at_call 62; (with_reducible refine (isInputCount_no _ _ Hn.out).mono ?_); rintro e w' ⟨rfl, rfl⟩))
    refine bodyPost_ret (v := .tuple #[.agg #[.int .i64 0, .int .i64 0], .int .i64 2]) (by simp [results, Try.results34, go_sem, *]) rfl ?_
    exact ⟨by rw [hr.out], by go_grown⟩

theorem sConstantTable_any (n v : Int) (w : World) :
    Calls Try.prog 33 #[.int .i64 n, .int .i64 v] w fun e w' => e = .returned (consRes n v) ∧ Below w.heap.size w w' := by
  have k0 : C2 (w.alloc (.cells #[.int .i64 0, .int .i64 0] 27)) (w.heap.size) (.int .i64 0) (.int .i64 0) := by simpa using C2.here w (.int .i64 0) (.int .i64 0) 27
  by_cases hn : 1 ≤ n ∧ n ≤ 5
  · have Hn : Hid (1 ≤ n ∧ n ≤ 5) := hn
    by_cases hv : 0 ≤ v ∧ v < 2
    · have hr : Hid (consRes n v = .tuple #[.agg #[.int .i64 n, .int .i64 (wrap64 (v * fullZ n))], .int .i64 0]) := by unfold Hid consRes; rw [if_pos ⟨hn, hv⟩]
      have Hv : Hid (0 ≤ v ∧ v ≤ 1) := ⟨hv.1, by omega⟩
      obtain ⟨h1, h5⟩ := hn
      clear hv
      go_enter Try.func33, Try.ntmps33
      go_wp2_with (first | (go_at_call 50; (with_reducible refine (l01In_yes _ _ _ _ Hn.out).mono ?_); rintro e w' ⟨rfl, rfl⟩) | (go_at_call 50; (with_reducible refine (l01In_yes _ _ _ _ Hv.out).mono ?_); rintro e w' ⟨rfl, rfl⟩) | (go_at_call 61; (with_reducible refine (l01Full_any _ _ h1 h5).mono ?_); rintro e w' ⟨rfl, rfl⟩))
      refine bodyPost_ret (v := .tuple #[.agg #[.int .i64 n, .int .i64 (wrap64 (v * fullZ n))], .int .i64 0]) (by simp [results, Try.results33, go_sem, *]) rfl ?_
      exact ⟨by rw [hr.out], by go_grown⟩
    · have hr : Hid (consRes n v = .tuple #[.agg #[.int .i64 0, .int .i64 0], .int .i64 2]) := by unfold Hid consRes; rw [if_neg (fun h => hv h.2)]
      have Hv : Hid (¬ (0 ≤ v ∧ v ≤ 1)) := by unfold Hid; omega
      obtain ⟨h1, h5⟩ := hn
      clear hv
      go_enter Try.func33, Try.ntmps33
      go_wp2_with (first | (go_at_call 50; (with_reducible refine (l01In_yes _ _ _ _ Hn.out).mono ?_); rintro e w' ⟨rfl, rfl⟩) | (go_at_call 50; (with_reducible refine (l01In_no _ _ _ _ Hv.out).mono ?_); rintro e w' ⟨rfl, rfl⟩))
      refine bodyPost_ret (v := .tuple #[.agg #[.int .i64 0, .int .i64 0], .int .i64 2]) (by simp [results, Try.results33, go_sem, *]) rfl ?_
      exact ⟨by rw [hr.out], by go_grown⟩
  · have hr : Hid (consRes n v = .tuple #[.agg #[.int .i64 0, .int .i64 0], .int .i64 2]) := by unfold Hid consRes; rw [if_neg (fun h => hn h.1)]
    have Hn : Hid (¬ (1 ≤ n ∧ n ≤ 5)) := by unfold Hid; omega
    clear hn
    go_enter Try.func33, Try.ntmps33
    go_wp2_with (first | (go_at_call 50; (with_reducible refine (l01In_no _ _ _ _ Hn.out).mono ?_); rintro e w' ⟨rfl, rfl⟩))
    refine bodyPost_ret (v := .tuple #[.agg #[.int .i64 0, .int .i64 0], .int .i64 2]) (by simp [results, Try.results33, go_sem, *]) rfl ?_
    exact ⟨by rw [hr.out], by go_grown⟩

end Go.Proofs.Ytgcdpbikeimelab
