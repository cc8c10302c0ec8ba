/- ProductOf, SumOf, DifferenceOf: the program's and the model's, and the walks of their laws. -/
import Derived.Test.YtgcdpbikeimelaaPair
namespace Go.Proofs.Ytgcdpbikeimelaa
open Go.RowKit
set_option linter.unusedVariables false

/-- what a function of two tables row by row gives -/
def pairRes (op : BinOp) (n v m u : Int) : Value :=
  if pairErr n v m u = 0 then .tuple #[.agg #[.int .i64 n, .int .i64 (bits op .i64 v u)], .int .i64 0] else .tuple #[.agg #[.int .i64 0, .int .i64 0], .int .i64 (pairErr n v m u)]
theorem pairRes_cases (op : BinOp) (n v m u : Int) : ∃ a b c : Int, pairRes op n v m u = .tuple #[.agg #[.int .i64 a, .int .i64 b], .int .i64 c] := by
  unfold pairRes; split <;> exact ⟨_, _, _, rfl⟩

theorem eqTable_same (a b : Int) (w : World) :
    Calls Try.prog 26 #[.agg #[.int .i64 a, .int .i64 b], .agg #[.int .i64 a, .int .i64 b]] w fun e w' => e = .returned (.bool true) ∧ Below w.heap.size w w' := by
  go_enter Try.func26, Try.ntmps26
  go_wp2
  go_ret
  exact ⟨rfl, by go_grown⟩

theorem l01And_any (n v m u : Int) (w : World) :
    Calls Try.prog 56 #[.agg #[.int .i64 n, .int .i64 v], .agg #[.int .i64 m, .int .i64 u]] w fun e w' => e = .returned (.agg #[.int .i64 n, .int .i64 (bits .and .i64 v u)]) ∧ Below w.heap.size w w' := by
  go_enter Try.func56, Try.ntmps56
  go_wp2
  go_returns
  exact ⟨rfl, by go_grown⟩

theorem l01Or_any (n v m u : Int) (w : World) :
    Calls Try.prog 58 #[.agg #[.int .i64 n, .int .i64 v], .agg #[.int .i64 m, .int .i64 u]] w fun e w' => e = .returned (.agg #[.int .i64 n, .int .i64 (bits .or .i64 v u)]) ∧ Below w.heap.size w w' := by
  go_enter Try.func58, Try.ntmps58
  go_wp2
  go_returns
  exact ⟨rfl, by go_grown⟩

theorem iProductOf_any (n v m u : Int) (w : World) :
    Calls Try.prog 32 #[.agg #[.int .i64 n, .int .i64 v], .agg #[.int .i64 m, .int .i64 u]] w fun e w' => e = .returned (pairRes .and n v m u) ∧ Below w.heap.size w w' := by
  have Hr : Hid (pairRes .and n v m u = pairRes .and n v m u) := rfl
  unfold Hid at Hr
  by_cases hp : pairErr n v m u = 0
  · have hr : Hid (pairRes .and n v m u = .tuple #[.agg #[.int .i64 n, .int .i64 (bits .and .i64 v u)], .int .i64 0]) := by unfold Hid pairRes; rw [if_pos hp]
    clear Hr
    have c1 : ∀ w, Calls Try.prog 57 #[.agg #[.int .i64 n, .int .i64 v], .agg #[.int .i64 m, .int .i64 u]] w fun e w' => e = .returned (.int .i64 0) ∧ Below w.heap.size w w' := fun w => hp ▸ pairError_any n v m u w
    have C1 := Lib.hid c1
    clear c1 hp
    have k0 : C2 (((w.alloc (.cells #[.int .i64 n, .int .i64 v] 25)).alloc (.cells #[.int .i64 m, .int .i64 u] 25)).alloc (.cells #[.int .i64 0, .int .i64 0] 25)) (w.heap.size) (.int .i64 n) (.int .i64 v) := by simpa using ((C2.here w (.int .i64 n) (.int .i64 v) 25).alloc (.cells #[.int .i64 m, .int .i64 u] 25)).alloc (.cells #[.int .i64 0, .int .i64 0] 25)
    have k1 : C2 (((w.alloc (.cells #[.int .i64 n, .int .i64 v] 25)).alloc (.cells #[.int .i64 m, .int .i64 u] 25)).alloc (.cells #[.int .i64 0, .int .i64 0] 25)) (w.heap.size + 1) (.int .i64 m) (.int .i64 u) := by simpa using (C2.here (w.alloc (.cells #[.int .i64 n, .int .i64 v] 25)) (.int .i64 m) (.int .i64 u) 25).alloc (.cells #[.int .i64 0, .int .i64 0] 25)
    have k2 : C2 (((w.alloc (.cells #[.int .i64 n, .int .i64 v] 25)).alloc (.cells #[.int .i64 m, .int .i64 u] 25)).alloc (.cells #[.int .i64 0, .int .i64 0] 25)) (w.heap.size + 1 + 1) (.int .i64 0) (.int .i64 0) := by simpa using C2.here ((w.alloc (.cells #[.int .i64 n, .int .i64 v] 25)).alloc (.cells #[.int .i64 m, .int .i64 u] 25)) (.int .i64 0) (.int .i64 0) 25
    go_enter Try.func32, Try.ntmps32
    go_wp2_with (first | (go_at_call 57; (with_reducible refine (C1.out _).mono ?_); rintro e w' ⟨rfl, hb⟩; have hL := chain (B := w.heap.size) (a := w) (by go_grown) (Nat.le_refl _) hb; (first | replace k0 := keepAt hb k0 | replace k0 := keepAt hb (C2.alloc k0 _)); (first | replace k1 := keepAt hb k1 | replace k1 := keepAt hb (C2.alloc k1 _)); (first | replace k2 := keepAt hb k2 | replace k2 := keepAt hb (C2.alloc k2 _)); clear hb))
    refine bodyPost_ret (v := .tuple #[.agg #[.int .i64 n, .int .i64 (bits .and .i64 v u)], .int .i64 0]) (by simp [results, Try.results32, go_sem, *]) rfl ?_
    exact ⟨by rw [hr.out]; try rfl, by go_grown⟩
  · have hr : Hid (pairRes .and n v m u = .tuple #[.agg #[.int .i64 0, .int .i64 0], .int .i64 (pairErr n v m u)]) := by unfold Hid pairRes; rw [if_neg hp]
    clear Hr
    have hne : (pairErr n v m u != 0) = true := by simpa using hp
    have k0 : C2 (((w.alloc (.cells #[.int .i64 n, .int .i64 v] 25)).alloc (.cells #[.int .i64 m, .int .i64 u] 25)).alloc (.cells #[.int .i64 0, .int .i64 0] 25)) (w.heap.size) (.int .i64 n) (.int .i64 v) := by simpa using ((C2.here w (.int .i64 n) (.int .i64 v) 25).alloc (.cells #[.int .i64 m, .int .i64 u] 25)).alloc (.cells #[.int .i64 0, .int .i64 0] 25)
    have k1 : C2 (((w.alloc (.cells #[.int .i64 n, .int .i64 v] 25)).alloc (.cells #[.int .i64 m, .int .i64 u] 25)).alloc (.cells #[.int .i64 0, .int .i64 0] 25)) (w.heap.size + 1) (.int .i64 m) (.int .i64 u) := by simpa using (C2.here (w.alloc (.cells #[.int .i64 n, .int .i64 v] 25)) (.int .i64 m) (.int .i64 u) 25).alloc (.cells #[.int .i64 0, .int .i64 0] 25)
    have k2 : C2 (((w.alloc (.cells #[.int .i64 n, .int .i64 v] 25)).alloc (.cells #[.int .i64 m, .int .i64 u] 25)).alloc (.cells #[.int .i64 0, .int .i64 0] 25)) (w.heap.size + 1 + 1) (.int .i64 0) (.int .i64 0) := by simpa using C2.here ((w.alloc (.cells #[.int .i64 n, .int .i64 v] 25)).alloc (.cells #[.int .i64 m, .int .i64 u] 25)) (.int .i64 0) (.int .i64 0) 25
    go_enter Try.func32, Try.ntmps32
    go_wp2_with (first | (go_at_call 57; (with_reducible refine (pairError_any _ _ _ _ _).mono ?_); rintro e w' ⟨rfl, hb⟩; have hL := chain (B := w.heap.size) (a := w) (by go_grown) (Nat.le_refl _) hb; (first | replace k0 := keepAt hb k0 | replace k0 := keepAt hb (C2.alloc k0 _)); (first | replace k1 := keepAt hb k1 | replace k1 := keepAt hb (C2.alloc k1 _)); (first | replace k2 := keepAt hb k2 | replace k2 := keepAt hb (C2.alloc k2 _)); clear hb))
    refine bodyPost_ret (v := .tuple #[.agg #[.int .i64 0, .int .i64 0], .int .i64 (pairErr n v m u)]) (by simp [results, Try.results32, go_sem, *]) rfl ?_
    exact ⟨by rw [hr.out]; try rfl, by go_grown⟩

theorem sProductOf_any (n v m u : Int) (w : World) :
    Calls Try.prog 31 #[.agg #[.int .i64 n, .int .i64 v], .agg #[.int .i64 m, .int .i64 u]] w fun e w' => e = .returned (pairRes .and n v m u) ∧ Below w.heap.size w w' := by
  have Hr : Hid (pairRes .and n v m u = pairRes .and n v m u) := rfl
  unfold Hid at Hr
  by_cases hp : pairErr n v m u = 0
  · have hr : Hid (pairRes .and n v m u = .tuple #[.agg #[.int .i64 n, .int .i64 (bits .and .i64 v u)], .int .i64 0]) := by unfold Hid pairRes; rw [if_pos hp]
    clear Hr
    have c1 : ∀ w, Calls Try.prog 55 #[.agg #[.int .i64 n, .int .i64 v], .agg #[.int .i64 m, .int .i64 u]] w fun e w' => e = .returned (.int .i64 0) ∧ Below w.heap.size w w' := fun w => hp ▸ l01Both_any n v m u w
    have C1 := Lib.hid c1
    clear c1 hp
    have k0 : C2 (((w.alloc (.cells #[.int .i64 n, .int .i64 v] 25)).alloc (.cells #[.int .i64 m, .int .i64 u] 25)).alloc (.cells #[.int .i64 0, .int .i64 0] 25)) (w.heap.size) (.int .i64 n) (.int .i64 v) := by simpa using ((C2.here w (.int .i64 n) (.int .i64 v) 25).alloc (.cells #[.int .i64 m, .int .i64 u] 25)).alloc (.cells #[.int .i64 0, .int .i64 0] 25)
    have k1 : C2 (((w.alloc (.cells #[.int .i64 n, .int .i64 v] 25)).alloc (.cells #[.int .i64 m, .int .i64 u] 25)).alloc (.cells #[.int .i64 0, .int .i64 0] 25)) (w.heap.size + 1) (.int .i64 m) (.int .i64 u) := by simpa using (C2.here (w.alloc (.cells #[.int .i64 n, .int .i64 v] 25)) (.int .i64 m) (.int .i64 u) 25).alloc (.cells #[.int .i64 0, .int .i64 0] 25)
    have k2 : C2 (((w.alloc (.cells #[.int .i64 n, .int .i64 v] 25)).alloc (.cells #[.int .i64 m, .int .i64 u] 25)).alloc (.cells #[.int .i64 0, .int .i64 0] 25)) (w.heap.size + 1 + 1) (.int .i64 0) (.int .i64 0) := by simpa using C2.here ((w.alloc (.cells #[.int .i64 n, .int .i64 v] 25)).alloc (.cells #[.int .i64 m, .int .i64 u] 25)) (.int .i64 0) (.int .i64 0) 25
    go_enter Try.func31, Try.ntmps31
    go_wp2_with (first | (go_at_call 55; (with_reducible refine (C1.out _).mono ?_); rintro e w' ⟨rfl, hb⟩; have hL := chain (B := w.heap.size) (a := w) (by go_grown) (Nat.le_refl _) hb; (first | replace k0 := keepAt hb k0 | replace k0 := keepAt hb (C2.alloc k0 _)); (first | replace k1 := keepAt hb k1 | replace k1 := keepAt hb (C2.alloc k1 _)); (first | replace k2 := keepAt hb k2 | replace k2 := keepAt hb (C2.alloc k2 _)); clear hb) | (go_at_call 56; (with_reducible refine (l01And_any _ _ _ _ _).mono ?_); rintro e w' ⟨rfl, hb⟩; have hL := chain (B := w.heap.size) (a := w) (by go_grown) (Nat.le_refl _) hb; (first | replace k0 := keepAt hb k0 | replace k0 := keepAt hb (C2.alloc k0 _)); (first | replace k1 := keepAt hb k1 | replace k1 := keepAt hb (C2.alloc k1 _)); (first | replace k2 := keepAt hb k2 | replace k2 := keepAt hb (C2.alloc k2 _)); clear hb))
    refine bodyPost_ret (v := .tuple #[.agg #[.int .i64 n, .int .i64 (bits .and .i64 v u)], .int .i64 0]) (by simp [results, Try.results31, go_sem, *]) rfl ?_
    exact ⟨by rw [hr.out]; try rfl, by go_grown⟩
  · have hr : Hid (pairRes .and n v m u = .tuple #[.agg #[.int .i64 0, .int .i64 0], .int .i64 (pairErr n v m u)]) := by unfold Hid pairRes; rw [if_neg hp]
    clear Hr
    have hne : (pairErr n v m u != 0) = true := by simpa using hp
    have k0 : C2 (((w.alloc (.cells #[.int .i64 n, .int .i64 v] 25)).alloc (.cells #[.int .i64 m, .int .i64 u] 25)).alloc (.cells #[.int .i64 0, .int .i64 0] 25)) (w.heap.size) (.int .i64 n) (.int .i64 v) := by simpa using ((C2.here w (.int .i64 n) (.int .i64 v) 25).alloc (.cells #[.int .i64 m, .int .i64 u] 25)).alloc (.cells #[.int .i64 0, .int .i64 0] 25)
    have k1 : C2 (((w.alloc (.cells #[.int .i64 n, .int .i64 v] 25)).alloc (.cells #[.int .i64 m, .int .i64 u] 25)).alloc (.cells #[.int .i64 0, .int .i64 0] 25)) (w.heap.size + 1) (.int .i64 m) (.int .i64 u) := by simpa using (C2.here (w.alloc (.cells #[.int .i64 n, .int .i64 v] 25)) (.int .i64 m) (.int .i64 u) 25).alloc (.cells #[.int .i64 0, .int .i64 0] 25)
    have k2 : C2 (((w.alloc (.cells #[.int .i64 n, .int .i64 v] 25)).alloc (.cells #[.int .i64 m, .int .i64 u] 25)).alloc (.cells #[.int .i64 0, .int .i64 0] 25)) (w.heap.size + 1 + 1) (.int .i64 0) (.int .i64 0) := by simpa using C2.here ((w.alloc (.cells #[.int .i64 n, .int .i64 v] 25)).alloc (.cells #[.int .i64 m, .int .i64 u] 25)) (.int .i64 0) (.int .i64 0) 25
    go_enter Try.func31, Try.ntmps31
    go_wp2_with (first | (go_at_call 55; (with_reducible refine (l01Both_any _ _ _ _ _).mono ?_); rintro e w' ⟨rfl, hb⟩; have hL := chain (B := w.heap.size) (a := w) (by go_grown) (Nat.le_refl _) hb; (first | replace k0 := keepAt hb k0 | replace k0 := keepAt hb (C2.alloc k0 _)); (first | replace k1 := keepAt hb k1 | replace k1 := keepAt hb (C2.alloc k1 _)); (first | replace k2 := keepAt hb k2 | replace k2 := keepAt hb (C2.alloc k2 _)); clear hb))
    refine bodyPost_ret (v := .tuple #[.agg #[.int .i64 0, .int .i64 0], .int .i64 (pairErr n v m u)]) (by simp [results, Try.results31, go_sem, *]) rfl ?_
    exact ⟨by rw [hr.out]; try rfl, by go_grown⟩

theorem iSumOf_any (n v m u : Int) (w : World) :
    Calls Try.prog 34 #[.agg #[.int .i64 n, .int .i64 v], .agg #[.int .i64 m, .int .i64 u]] w fun e w' => e = .returned (pairRes .or n v m u) ∧ Below w.heap.size w w' := by
  have Hr : Hid (pairRes .or n v m u = pairRes .or n v m u) := rfl
  unfold Hid at Hr
  by_cases hp : pairErr n v m u = 0
  · have hr : Hid (pairRes .or n v m u = .tuple #[.agg #[.int .i64 n, .int .i64 (bits .or .i64 v u)], .int .i64 0]) := by unfold Hid pairRes; rw [if_pos hp]
    clear Hr
    have c1 : ∀ w, Calls Try.prog 57 #[.agg #[.int .i64 n, .int .i64 v], .agg #[.int .i64 m, .int .i64 u]] w fun e w' => e = .returned (.int .i64 0) ∧ Below w.heap.size w w' := fun w => hp ▸ pairError_any n v m u w
    have C1 := Lib.hid c1
    clear c1 hp
    have k0 : C2 (((w.alloc (.cells #[.int .i64 n, .int .i64 v] 25)).alloc (.cells #[.int .i64 m, .int .i64 u] 25)).alloc (.cells #[.int .i64 0, .int .i64 0] 25)) (w.heap.size) (.int .i64 n) (.int .i64 v) := by simpa using ((C2.here w (.int .i64 n) (.int .i64 v) 25).alloc (.cells #[.int .i64 m, .int .i64 u] 25)).alloc (.cells #[.int .i64 0, .int .i64 0] 25)
    have k1 : C2 (((w.alloc (.cells #[.int .i64 n, .int .i64 v] 25)).alloc (.cells #[.int .i64 m, .int .i64 u] 25)).alloc (.cells #[.int .i64 0, .int .i64 0] 25)) (w.heap.size + 1) (.int .i64 m) (.int .i64 u) := by simpa using (C2.here (w.alloc (.cells #[.int .i64 n, .int .i64 v] 25)) (.int .i64 m) (.int .i64 u) 25).alloc (.cells #[.int .i64 0, .int .i64 0] 25)
    have k2 : C2 (((w.alloc (.cells #[.int .i64 n, .int .i64 v] 25)).alloc (.cells #[.int .i64 m, .int .i64 u] 25)).alloc (.cells #[.int .i64 0, .int .i64 0] 25)) (w.heap.size + 1 + 1) (.int .i64 0) (.int .i64 0) := by simpa using C2.here ((w.alloc (.cells #[.int .i64 n, .int .i64 v] 25)).alloc (.cells #[.int .i64 m, .int .i64 u] 25)) (.int .i64 0) (.int .i64 0) 25
    go_enter Try.func34, Try.ntmps34
    go_wp2_with (first | (go_at_call 57; (with_reducible refine (C1.out _).mono ?_); rintro e w' ⟨rfl, hb⟩; have hL := chain (B := w.heap.size) (a := w) (by go_grown) (Nat.le_refl _) hb; (first | replace k0 := keepAt hb k0 | replace k0 := keepAt hb (C2.alloc k0 _)); (first | replace k1 := keepAt hb k1 | replace k1 := keepAt hb (C2.alloc k1 _)); (first | replace k2 := keepAt hb k2 | replace k2 := keepAt hb (C2.alloc k2 _)); clear hb))
    refine bodyPost_ret (v := .tuple #[.agg #[.int .i64 n, .int .i64 (bits .or .i64 v u)], .int .i64 0]) (by simp [results, Try.results34, go_sem, *]) rfl ?_
    exact ⟨by rw [hr.out]; try rfl, by go_grown⟩
  · have hr : Hid (pairRes .or n v m u = .tuple #[.agg #[.int .i64 0, .int .i64 0], .int .i64 (pairErr n v m u)]) := by unfold Hid pairRes; rw [if_neg hp]
    clear Hr
    have hne : (pairErr n v m u != 0) = true := by simpa using hp
    have k0 : C2 (((w.alloc (.cells #[.int .i64 n, .int .i64 v] 25)).alloc (.cells #[.int .i64 m, .int .i64 u] 25)).alloc (.cells #[.int .i64 0, .int .i64 0] 25)) (w.heap.size) (.int .i64 n) (.int .i64 v) := by simpa using ((C2.here w (.int .i64 n) (.int .i64 v) 25).alloc (.cells #[.int .i64 m, .int .i64 u] 25)).alloc (.cells #[.int .i64 0, .int .i64 0] 25)
    have k1 : C2 (((w.alloc (.cells #[.int .i64 n, .int .i64 v] 25)).alloc (.cells #[.int .i64 m, .int .i64 u] 25)).alloc (.cells #[.int .i64 0, .int .i64 0] 25)) (w.heap.size + 1) (.int .i64 m) (.int .i64 u) := by simpa using (C2.here (w.alloc (.cells #[.int .i64 n, .int .i64 v] 25)) (.int .i64 m) (.int .i64 u) 25).alloc (.cells #[.int .i64 0, .int .i64 0] 25)
    have k2 : C2 (((w.alloc (.cells #[.int .i64 n, .int .i64 v] 25)).alloc (.cells #[.int .i64 m, .int .i64 u] 25)).alloc (.cells #[.int .i64 0, .int .i64 0] 25)) (w.heap.size + 1 + 1) (.int .i64 0) (.int .i64 0) := by simpa using C2.here ((w.alloc (.cells #[.int .i64 n, .int .i64 v] 25)).alloc (.cells #[.int .i64 m, .int .i64 u] 25)) (.int .i64 0) (.int .i64 0) 25
    go_enter Try.func34, Try.ntmps34
    go_wp2_with (first | (go_at_call 57; (with_reducible refine (pairError_any _ _ _ _ _).mono ?_); rintro e w' ⟨rfl, hb⟩; have hL := chain (B := w.heap.size) (a := w) (by go_grown) (Nat.le_refl _) hb; (first | replace k0 := keepAt hb k0 | replace k0 := keepAt hb (C2.alloc k0 _)); (first | replace k1 := keepAt hb k1 | replace k1 := keepAt hb (C2.alloc k1 _)); (first | replace k2 := keepAt hb k2 | replace k2 := keepAt hb (C2.alloc k2 _)); clear hb))
    refine bodyPost_ret (v := .tuple #[.agg #[.int .i64 0, .int .i64 0], .int .i64 (pairErr n v m u)]) (by simp [results, Try.results34, go_sem, *]) rfl ?_
    exact ⟨by rw [hr.out]; try rfl, by go_grown⟩

theorem sSumOf_any (n v m u : Int) (w : World) :
    Calls Try.prog 33 #[.agg #[.int .i64 n, .int .i64 v], .agg #[.int .i64 m, .int .i64 u]] w fun e w' => e = .returned (pairRes .or n v m u) ∧ Below w.heap.size w w' := by
  have Hr : Hid (pairRes .or n v m u = pairRes .or n v m u) := rfl
  unfold Hid at Hr
  by_cases hp : pairErr n v m u = 0
  · have hr : Hid (pairRes .or n v m u = .tuple #[.agg #[.int .i64 n, .int .i64 (bits .or .i64 v u)], .int .i64 0]) := by unfold Hid pairRes; rw [if_pos hp]
    clear Hr
    have c1 : ∀ w, Calls Try.prog 55 #[.agg #[.int .i64 n, .int .i64 v], .agg #[.int .i64 m, .int .i64 u]] w fun e w' => e = .returned (.int .i64 0) ∧ Below w.heap.size w w' := fun w => hp ▸ l01Both_any n v m u w
    have C1 := Lib.hid c1
    clear c1 hp
    have k0 : C2 (((w.alloc (.cells #[.int .i64 n, .int .i64 v] 25)).alloc (.cells #[.int .i64 m, .int .i64 u] 25)).alloc (.cells #[.int .i64 0, .int .i64 0] 25)) (w.heap.size) (.int .i64 n) (.int .i64 v) := by simpa using ((C2.here w (.int .i64 n) (.int .i64 v) 25).alloc (.cells #[.int .i64 m, .int .i64 u] 25)).alloc (.cells #[.int .i64 0, .int .i64 0] 25)
    have k1 : C2 (((w.alloc (.cells #[.int .i64 n, .int .i64 v] 25)).alloc (.cells #[.int .i64 m, .int .i64 u] 25)).alloc (.cells #[.int .i64 0, .int .i64 0] 25)) (w.heap.size + 1) (.int .i64 m) (.int .i64 u) := by simpa using (C2.here (w.alloc (.cells #[.int .i64 n, .int .i64 v] 25)) (.int .i64 m) (.int .i64 u) 25).alloc (.cells #[.int .i64 0, .int .i64 0] 25)
    have k2 : C2 (((w.alloc (.cells #[.int .i64 n, .int .i64 v] 25)).alloc (.cells #[.int .i64 m, .int .i64 u] 25)).alloc (.cells #[.int .i64 0, .int .i64 0] 25)) (w.heap.size + 1 + 1) (.int .i64 0) (.int .i64 0) := by simpa using C2.here ((w.alloc (.cells #[.int .i64 n, .int .i64 v] 25)).alloc (.cells #[.int .i64 m, .int .i64 u] 25)) (.int .i64 0) (.int .i64 0) 25
    go_enter Try.func33, Try.ntmps33
    go_wp2_with (first | (go_at_call 55; (with_reducible refine (C1.out _).mono ?_); rintro e w' ⟨rfl, hb⟩; have hL := chain (B := w.heap.size) (a := w) (by go_grown) (Nat.le_refl _) hb; (first | replace k0 := keepAt hb k0 | replace k0 := keepAt hb (C2.alloc k0 _)); (first | replace k1 := keepAt hb k1 | replace k1 := keepAt hb (C2.alloc k1 _)); (first | replace k2 := keepAt hb k2 | replace k2 := keepAt hb (C2.alloc k2 _)); clear hb) | (go_at_call 58; (with_reducible refine (l01Or_any _ _ _ _ _).mono ?_); rintro e w' ⟨rfl, hb⟩; have hL := chain (B := w.heap.size) (a := w) (by go_grown) (Nat.le_refl _) hb; (first | replace k0 := keepAt hb k0 | replace k0 := keepAt hb (C2.alloc k0 _)); (first | replace k1 := keepAt hb k1 | replace k1 := keepAt hb (C2.alloc k1 _)); (first | replace k2 := keepAt hb k2 | replace k2 := keepAt hb (C2.alloc k2 _)); clear hb))
    refine bodyPost_ret (v := .tuple #[.agg #[.int .i64 n, .int .i64 (bits .or .i64 v u)], .int .i64 0]) (by simp [results, Try.results33, go_sem, *]) rfl ?_
    exact ⟨by rw [hr.out]; try rfl, by go_grown⟩
  · have hr : Hid (pairRes .or n v m u = .tuple #[.agg #[.int .i64 0, .int .i64 0], .int .i64 (pairErr n v m u)]) := by unfold Hid pairRes; rw [if_neg hp]
    clear Hr
    have hne : (pairErr n v m u != 0) = true := by simpa using hp
    have k0 : C2 (((w.alloc (.cells #[.int .i64 n, .int .i64 v] 25)).alloc (.cells #[.int .i64 m, .int .i64 u] 25)).alloc (.cells #[.int .i64 0, .int .i64 0] 25)) (w.heap.size) (.int .i64 n) (.int .i64 v) := by simpa using ((C2.here w (.int .i64 n) (.int .i64 v) 25).alloc (.cells #[.int .i64 m, .int .i64 u] 25)).alloc (.cells #[.int .i64 0, .int .i64 0] 25)
    have k1 : C2 (((w.alloc (.cells #[.int .i64 n, .int .i64 v] 25)).alloc (.cells #[.int .i64 m, .int .i64 u] 25)).alloc (.cells #[.int .i64 0, .int .i64 0] 25)) (w.heap.size + 1) (.int .i64 m) (.int .i64 u) := by simpa using (C2.here (w.alloc (.cells #[.int .i64 n, .int .i64 v] 25)) (.int .i64 m) (.int .i64 u) 25).alloc (.cells #[.int .i64 0, .int .i64 0] 25)
    have k2 : C2 (((w.alloc (.cells #[.int .i64 n, .int .i64 v] 25)).alloc (.cells #[.int .i64 m, .int .i64 u] 25)).alloc (.cells #[.int .i64 0, .int .i64 0] 25)) (w.heap.size + 1 + 1) (.int .i64 0) (.int .i64 0) := by simpa using C2.here ((w.alloc (.cells #[.int .i64 n, .int .i64 v] 25)).alloc (.cells #[.int .i64 m, .int .i64 u] 25)) (.int .i64 0) (.int .i64 0) 25
    go_enter Try.func33, Try.ntmps33
    go_wp2_with (first | (go_at_call 55; (with_reducible refine (l01Both_any _ _ _ _ _).mono ?_); rintro e w' ⟨rfl, hb⟩; have hL := chain (B := w.heap.size) (a := w) (by go_grown) (Nat.le_refl _) hb; (first | replace k0 := keepAt hb k0 | replace k0 := keepAt hb (C2.alloc k0 _)); (first | replace k1 := keepAt hb k1 | replace k1 := keepAt hb (C2.alloc k1 _)); (first | replace k2 := keepAt hb k2 | replace k2 := keepAt hb (C2.alloc k2 _)); clear hb))
    refine bodyPost_ret (v := .tuple #[.agg #[.int .i64 0, .int .i64 0], .int .i64 (pairErr n v m u)]) (by simp [results, Try.results33, go_sem, *]) rfl ?_
    exact ⟨by rw [hr.out]; try rfl, by go_grown⟩

theorem iDifferenceOf_any (n v m u : Int) (w : World) :
    Calls Try.prog 36 #[.agg #[.int .i64 n, .int .i64 v], .agg #[.int .i64 m, .int .i64 u]] w fun e w' => e = .returned (pairRes .xor n v m u) ∧ Below w.heap.size w w' := by
  have Hr : Hid (pairRes .xor n v m u = pairRes .xor n v m u) := rfl
  unfold Hid at Hr
  by_cases hp : pairErr n v m u = 0
  · have hr : Hid (pairRes .xor n v m u = .tuple #[.agg #[.int .i64 n, .int .i64 (bits .xor .i64 v u)], .int .i64 0]) := by unfold Hid pairRes; rw [if_pos hp]
    clear Hr
    have c1 : ∀ w, Calls Try.prog 57 #[.agg #[.int .i64 n, .int .i64 v], .agg #[.int .i64 m, .int .i64 u]] w fun e w' => e = .returned (.int .i64 0) ∧ Below w.heap.size w w' := fun w => hp ▸ pairError_any n v m u w
    have C1 := Lib.hid c1
    clear c1 hp
    have k0 : C2 (((w.alloc (.cells #[.int .i64 n, .int .i64 v] 25)).alloc (.cells #[.int .i64 m, .int .i64 u] 25)).alloc (.cells #[.int .i64 0, .int .i64 0] 25)) (w.heap.size) (.int .i64 n) (.int .i64 v) := by simpa using ((C2.here w (.int .i64 n) (.int .i64 v) 25).alloc (.cells #[.int .i64 m, .int .i64 u] 25)).alloc (.cells #[.int .i64 0, .int .i64 0] 25)
    have k1 : C2 (((w.alloc (.cells #[.int .i64 n, .int .i64 v] 25)).alloc (.cells #[.int .i64 m, .int .i64 u] 25)).alloc (.cells #[.int .i64 0, .int .i64 0] 25)) (w.heap.size + 1) (.int .i64 m) (.int .i64 u) := by simpa using (C2.here (w.alloc (.cells #[.int .i64 n, .int .i64 v] 25)) (.int .i64 m) (.int .i64 u) 25).alloc (.cells #[.int .i64 0, .int .i64 0] 25)
    have k2 : C2 (((w.alloc (.cells #[.int .i64 n, .int .i64 v] 25)).alloc (.cells #[.int .i64 m, .int .i64 u] 25)).alloc (.cells #[.int .i64 0, .int .i64 0] 25)) (w.heap.size + 1 + 1) (.int .i64 0) (.int .i64 0) := by simpa using C2.here ((w.alloc (.cells #[.int .i64 n, .int .i64 v] 25)).alloc (.cells #[.int .i64 m, .int .i64 u] 25)) (.int .i64 0) (.int .i64 0) 25
    go_enter Try.func36, Try.ntmps36
    go_wp2_with (first | (go_at_call 57; (with_reducible refine (C1.out _).mono ?_); rintro e w' ⟨rfl, hb⟩; have hL := chain (B := w.heap.size) (a := w) (by go_grown) (Nat.le_refl _) hb; (first | replace k0 := keepAt hb k0 | replace k0 := keepAt hb (C2.alloc k0 _)); (first | replace k1 := keepAt hb k1 | replace k1 := keepAt hb (C2.alloc k1 _)); (first | replace k2 := keepAt hb k2 | replace k2 := keepAt hb (C2.alloc k2 _)); clear hb))
    refine bodyPost_ret (v := .tuple #[.agg #[.int .i64 n, .int .i64 (bits .xor .i64 v u)], .int .i64 0]) (by simp [results, Try.results36, go_sem, *]) rfl ?_
    exact ⟨by rw [hr.out]; try rfl, by go_grown⟩
  · have hr : Hid (pairRes .xor n v m u = .tuple #[.agg #[.int .i64 0, .int .i64 0], .int .i64 (pairErr n v m u)]) := by unfold Hid pairRes; rw [if_neg hp]
    clear Hr
    have hne : (pairErr n v m u != 0) = true := by simpa using hp
    have k0 : C2 (((w.alloc (.cells #[.int .i64 n, .int .i64 v] 25)).alloc (.cells #[.int .i64 m, .int .i64 u] 25)).alloc (.cells #[.int .i64 0, .int .i64 0] 25)) (w.heap.size) (.int .i64 n) (.int .i64 v) := by simpa using ((C2.here w (.int .i64 n) (.int .i64 v) 25).alloc (.cells #[.int .i64 m, .int .i64 u] 25)).alloc (.cells #[.int .i64 0, .int .i64 0] 25)
    have k1 : C2 (((w.alloc (.cells #[.int .i64 n, .int .i64 v] 25)).alloc (.cells #[.int .i64 m, .int .i64 u] 25)).alloc (.cells #[.int .i64 0, .int .i64 0] 25)) (w.heap.size + 1) (.int .i64 m) (.int .i64 u) := by simpa using (C2.here (w.alloc (.cells #[.int .i64 n, .int .i64 v] 25)) (.int .i64 m) (.int .i64 u) 25).alloc (.cells #[.int .i64 0, .int .i64 0] 25)
    have k2 : C2 (((w.alloc (.cells #[.int .i64 n, .int .i64 v] 25)).alloc (.cells #[.int .i64 m, .int .i64 u] 25)).alloc (.cells #[.int .i64 0, .int .i64 0] 25)) (w.heap.size + 1 + 1) (.int .i64 0) (.int .i64 0) := by simpa using C2.here ((w.alloc (.cells #[.int .i64 n, .int .i64 v] 25)).alloc (.cells #[.int .i64 m, .int .i64 u] 25)) (.int .i64 0) (.int .i64 0) 25
    go_enter Try.func36, Try.ntmps36
    go_wp2_with (first | (go_at_call 57; (with_reducible refine (pairError_any _ _ _ _ _).mono ?_); rintro e w' ⟨rfl, hb⟩; have hL := chain (B := w.heap.size) (a := w) (by go_grown) (Nat.le_refl _) hb; (first | replace k0 := keepAt hb k0 | replace k0 := keepAt hb (C2.alloc k0 _)); (first | replace k1 := keepAt hb k1 | replace k1 := keepAt hb (C2.alloc k1 _)); (first | replace k2 := keepAt hb k2 | replace k2 := keepAt hb (C2.alloc k2 _)); clear hb))
    refine bodyPost_ret (v := .tuple #[.agg #[.int .i64 0, .int .i64 0], .int .i64 (pairErr n v m u)]) (by simp [results, Try.results36, go_sem, *]) rfl ?_
    exact ⟨by rw [hr.out]; try rfl, by go_grown⟩

theorem sDifferenceOf_any (n v m u : Int) (w : World) :
    Calls Try.prog 35 #[.agg #[.int .i64 n, .int .i64 v], .agg #[.int .i64 m, .int .i64 u]] w fun e w' => e = .returned (pairRes .xor n v m u) ∧ Below w.heap.size w w' := by
  have Hr : Hid (pairRes .xor n v m u = pairRes .xor n v m u) := rfl
  unfold Hid at Hr
  by_cases hp : pairErr n v m u = 0
  · have hr : Hid (pairRes .xor n v m u = .tuple #[.agg #[.int .i64 n, .int .i64 (bits .xor .i64 v u)], .int .i64 0]) := by unfold Hid pairRes; rw [if_pos hp]
    clear Hr
    have c1 : ∀ w, Calls Try.prog 55 #[.agg #[.int .i64 n, .int .i64 v], .agg #[.int .i64 m, .int .i64 u]] w fun e w' => e = .returned (.int .i64 0) ∧ Below w.heap.size w w' := fun w => hp ▸ l01Both_any n v m u w
    have C1 := Lib.hid c1
    clear c1 hp
    have k0 : C2 (((w.alloc (.cells #[.int .i64 n, .int .i64 v] 25)).alloc (.cells #[.int .i64 m, .int .i64 u] 25)).alloc (.cells #[.int .i64 0, .int .i64 0] 25)) (w.heap.size) (.int .i64 n) (.int .i64 v) := by simpa using ((C2.here w (.int .i64 n) (.int .i64 v) 25).alloc (.cells #[.int .i64 m, .int .i64 u] 25)).alloc (.cells #[.int .i64 0, .int .i64 0] 25)
    have k1 : C2 (((w.alloc (.cells #[.int .i64 n, .int .i64 v] 25)).alloc (.cells #[.int .i64 m, .int .i64 u] 25)).alloc (.cells #[.int .i64 0, .int .i64 0] 25)) (w.heap.size + 1) (.int .i64 m) (.int .i64 u) := by simpa using (C2.here (w.alloc (.cells #[.int .i64 n, .int .i64 v] 25)) (.int .i64 m) (.int .i64 u) 25).alloc (.cells #[.int .i64 0, .int .i64 0] 25)
    have k2 : C2 (((w.alloc (.cells #[.int .i64 n, .int .i64 v] 25)).alloc (.cells #[.int .i64 m, .int .i64 u] 25)).alloc (.cells #[.int .i64 0, .int .i64 0] 25)) (w.heap.size + 1 + 1) (.int .i64 0) (.int .i64 0) := by simpa using C2.here ((w.alloc (.cells #[.int .i64 n, .int .i64 v] 25)).alloc (.cells #[.int .i64 m, .int .i64 u] 25)) (.int .i64 0) (.int .i64 0) 25
    go_enter Try.func35, Try.ntmps35
    go_wp2_with (first | (go_at_call 55; (with_reducible refine (C1.out _).mono ?_); rintro e w' ⟨rfl, hb⟩; have hL := chain (B := w.heap.size) (a := w) (by go_grown) (Nat.le_refl _) hb; (first | replace k0 := keepAt hb k0 | replace k0 := keepAt hb (C2.alloc k0 _)); (first | replace k1 := keepAt hb k1 | replace k1 := keepAt hb (C2.alloc k1 _)); (first | replace k2 := keepAt hb k2 | replace k2 := keepAt hb (C2.alloc k2 _)); clear hb))
    refine bodyPost_ret (v := .tuple #[.agg #[.int .i64 n, .int .i64 (bits .xor .i64 v u)], .int .i64 0]) (by simp [results, Try.results35, go_sem, *]) rfl ?_
    exact ⟨by rw [hr.out]; try rfl, by go_grown⟩
  · have hr : Hid (pairRes .xor n v m u = .tuple #[.agg #[.int .i64 0, .int .i64 0], .int .i64 (pairErr n v m u)]) := by unfold Hid pairRes; rw [if_neg hp]
    clear Hr
    have hne : (pairErr n v m u != 0) = true := by simpa using hp
    have k0 : C2 (((w.alloc (.cells #[.int .i64 n, .int .i64 v] 25)).alloc (.cells #[.int .i64 m, .int .i64 u] 25)).alloc (.cells #[.int .i64 0, .int .i64 0] 25)) (w.heap.size) (.int .i64 n) (.int .i64 v) := by simpa using ((C2.here w (.int .i64 n) (.int .i64 v) 25).alloc (.cells #[.int .i64 m, .int .i64 u] 25)).alloc (.cells #[.int .i64 0, .int .i64 0] 25)
    have k1 : C2 (((w.alloc (.cells #[.int .i64 n, .int .i64 v] 25)).alloc (.cells #[.int .i64 m, .int .i64 u] 25)).alloc (.cells #[.int .i64 0, .int .i64 0] 25)) (w.heap.size + 1) (.int .i64 m) (.int .i64 u) := by simpa using (C2.here (w.alloc (.cells #[.int .i64 n, .int .i64 v] 25)) (.int .i64 m) (.int .i64 u) 25).alloc (.cells #[.int .i64 0, .int .i64 0] 25)
    have k2 : C2 (((w.alloc (.cells #[.int .i64 n, .int .i64 v] 25)).alloc (.cells #[.int .i64 m, .int .i64 u] 25)).alloc (.cells #[.int .i64 0, .int .i64 0] 25)) (w.heap.size + 1 + 1) (.int .i64 0) (.int .i64 0) := by simpa using C2.here ((w.alloc (.cells #[.int .i64 n, .int .i64 v] 25)).alloc (.cells #[.int .i64 m, .int .i64 u] 25)) (.int .i64 0) (.int .i64 0) 25
    go_enter Try.func35, Try.ntmps35
    go_wp2_with (first | (go_at_call 55; (with_reducible refine (l01Both_any _ _ _ _ _).mono ?_); rintro e w' ⟨rfl, hb⟩; have hL := chain (B := w.heap.size) (a := w) (by go_grown) (Nat.le_refl _) hb; (first | replace k0 := keepAt hb k0 | replace k0 := keepAt hb (C2.alloc k0 _)); (first | replace k1 := keepAt hb k1 | replace k1 := keepAt hb (C2.alloc k1 _)); (first | replace k2 := keepAt hb k2 | replace k2 := keepAt hb (C2.alloc k2 _)); clear hb))
    refine bodyPost_ret (v := .tuple #[.agg #[.int .i64 0, .int .i64 0], .int .i64 (pairErr n v m u)]) (by simp [results, Try.results35, go_sem, *]) rfl ?_
    exact ⟨by rw [hr.out]; try rfl, by go_grown⟩


end Go.Proofs.Ytgcdpbikeimelaa
