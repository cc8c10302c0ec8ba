/- ValueInRow: the program's and the model's. -/
import Derived.Test.YtgcdpbikeimelaaAt
namespace Go.Proofs.Ytgcdpbikeimelaa
open Go.RowKit
set_option linter.unusedVariables false

/-- what ValueInRow gives -/
def valueInRow (n v k : Int) : Value :=
  if isTab n v then (if 0 ≤ k ∧ k < rcZ n then .tuple #[.int .i64 (digZ v k), .int .i64 0] else .tuple #[.int .i64 0, .int .i64 2]) else .tuple #[.int .i64 0, .int .i64 1]

theorem valueInRow_any (n v k : Int) (w : World) :
    Calls Try.prog 17 #[.agg #[.int .i64 n, .int .i64 v], .int .i64 k] w fun e w' => e = .returned (valueInRow n v k) ∧ Below w.heap.size w w' := by
  have hB0 := Bx.here w (.cells #[.int .i64 n, .int .i64 v] 25)
  cases ht : isTab n v
  · have Ht := Lib.hid ht
    clear ht
    have hr : Hid (valueInRow n v k = .tuple #[.int .i64 0, .int .i64 1]) := by unfold Hid valueInRow; rw [Ht.out]; rfl
    go_enter Try.func17, Try.ntmps17
    go_wp2_with (go_at_call 15; refine (isTable_b _ _ _ Ht.out).mono ?_; rintro e w' ⟨rfl, hb⟩; have hB := Bx.next (by assumption) hb; obtain ⟨_, _⟩ := hB.tab; clear hb)
    go_ret2
    exact ⟨by rw [hr.out]; rfl, (Bx.below (by assumption))⟩
  · obtain ⟨h1, h5, h0, hx⟩ := tab_bd ht
    have Ht := Lib.hid ht
    clear ht
    have hrc := rcZ_bd h1 h5
    by_cases hk : 0 ≤ k ∧ k < rcZ n
    · have hr : Hid (valueInRow n v k = .tuple #[.int .i64 (digZ v k), .int .i64 0]) := by unfold Hid valueInRow; rw [Ht.out, if_pos hk]; rfl
      have Hk := Lib.hid hk
      obtain ⟨hk0, hk1⟩ := hk
      go_enter Try.func17, Try.ntmps17
      go_wp2_with (first | (go_at_call 15; refine (isTable_b _ _ _ Ht.out).mono ?_; rintro e w' ⟨rfl, hb⟩; have hB := Bx.next (by assumption) hb; obtain ⟨_, _⟩ := hB.tab; have := hB.size; clear hb) | (go_at_call 46; refine (rowCount_any _ _ h1 h5).mono ?_; rintro e w' ⟨rfl, rfl⟩) | (go_at_call 45; refine (isBelow_yes _ _ _ Hk.out).mono ?_; rintro e w' ⟨rfl, rfl⟩) | (go_at_call 47; refine (valueAt_any _ _ _ _ h0 hx hk0 (by omega)).mono ?_; rintro e w' ⟨rfl, hb⟩; have hB := Bx.next (by assumption) hb; clear hb))
      go_ret2
      exact ⟨by rw [hr.out]; rfl, (Bx.below (by assumption))⟩
    · have hr : Hid (valueInRow n v k = .tuple #[.int .i64 0, .int .i64 2]) := by unfold Hid valueInRow; rw [Ht.out, if_neg hk]; rfl
      have Hk := Lib.hid hk
      clear hk
      go_enter Try.func17, Try.ntmps17
      go_wp2_with (first | (go_at_call 15; refine (isTable_b _ _ _ Ht.out).mono ?_; rintro e w' ⟨rfl, hb⟩; have hB := Bx.next (by assumption) hb; obtain ⟨_, _⟩ := hB.tab; have := hB.size; clear hb) | (go_at_call 46; refine (rowCount_any _ _ h1 h5).mono ?_; rintro e w' ⟨rfl, rfl⟩) | (go_at_call 45; refine (isBelow_no _ _ _ Hk.out).mono ?_; rintro e w' ⟨rfl, rfl⟩))
      go_ret2
      exact ⟨by rw [hr.out]; rfl, (Bx.below (by assumption))⟩

theorem specValueInRow_any (n v k : Int) (w : World) :
    Calls Try.prog 16 #[.agg #[.int .i64 n, .int .i64 v], .int .i64 k] w fun e w' => e = .returned (valueInRow n v k) ∧ Below w.heap.size w w' := by
  have hB0 := Bx.here w (.cells #[.int .i64 n, .int .i64 v] 25)
  cases ht : isTab n v
  · have Ht := Lib.hid ht
    clear ht
    have hr : Hid (valueInRow n v k = .tuple #[.int .i64 0, .int .i64 1]) := by unfold Hid valueInRow; rw [Ht.out]; rfl
    go_enter Try.func16, Try.ntmps16
    go_wp2_with (go_at_call 39; refine (l01Is_b _ _ _ Ht.out).mono ?_; rintro e w' ⟨rfl, hb⟩; have hB := Bx.next (by assumption) hb; obtain ⟨_, _⟩ := hB.tab; have := hB.size; clear hb)
    go_ret2
    exact ⟨by rw [hr.out]; rfl, (Bx.below (by assumption))⟩
  · obtain ⟨h1, h5, h0, hx⟩ := tab_bd ht
    have Ht := Lib.hid ht
    clear ht
    have hrc := rcZ_bd h1 h5
    by_cases hk : 0 ≤ k ∧ k < rcZ n
    · have hr : Hid (valueInRow n v k = .tuple #[.int .i64 (digZ v k), .int .i64 0]) := by unfold Hid valueInRow; rw [Ht.out, if_pos hk]; rfl
      have Hk : Hid (0 ≤ k ∧ k ≤ rcZ n - 1) := ⟨hk.1, by omega⟩
      obtain ⟨hk0, hk1⟩ := hk
      go_enter Try.func16, Try.ntmps16
      go_wp2_with (first | (go_at_call 39; refine (l01Is_b _ _ _ Ht.out).mono ?_; rintro e w' ⟨rfl, hb⟩; have hB := Bx.next (by assumption) hb; obtain ⟨_, _⟩ := hB.tab; have := hB.size; clear hb) | (go_at_call 43; refine (l01Rows_any _ _ h1 h5).mono ?_; rintro e w' ⟨rfl, rfl⟩) | (go_at_call 42; refine (l01In_yes _ _ _ _ Hk.out).mono ?_; rintro e w' ⟨rfl, rfl⟩) | (go_at_call 44; refine (l01At_any _ _ _ _ h0 hx hk0 (by omega)).mono ?_; rintro e w' ⟨rfl, hb⟩; have hB := Bx.next (by assumption) hb; clear hb))
      go_ret2
      exact ⟨by rw [hr.out]; rfl, (Bx.below (by assumption))⟩
    · have hr : Hid (valueInRow n v k = .tuple #[.int .i64 0, .int .i64 2]) := by unfold Hid valueInRow; rw [Ht.out, if_neg hk]; rfl
      have Hk : Hid (¬ (0 ≤ k ∧ k ≤ rcZ n - 1)) := by unfold Hid; omega
      clear hk
      go_enter Try.func16, Try.ntmps16
      go_wp2_with (first | (go_at_call 39; refine (l01Is_b _ _ _ Ht.out).mono ?_; rintro e w' ⟨rfl, hb⟩; have hB := Bx.next (by assumption) hb; obtain ⟨_, _⟩ := hB.tab; have := hB.size; clear hb) | (go_at_call 43; refine (l01Rows_any _ _ h1 h5).mono ?_; rintro e w' ⟨rfl, rfl⟩) | (go_at_call 42; refine (l01In_no _ _ _ _ Hk.out).mono ?_; rintro e w' ⟨rfl, rfl⟩))
      go_ret2
      exact ⟨by rw [hr.out]; rfl, (Bx.below (by assumption))⟩

theorem valueInRow_cases (n v k : Int) : ∃ a b : Int, valueInRow n v k = .tuple #[.int .i64 a, .int .i64 b] := by
  unfold valueInRow; split
  · split <;> exact ⟨_, _, rfl⟩
  · exact ⟨_, _, rfl⟩

theorem walkFnExactValueInRow (n v : Int) (wa : (Lit.int .i64 n).wf = true) (wb : (Lit.int .i64 v).wf = true) (k : Int) (wk : (Lit.int .i64 k).wf = true) (w : World) :
    Calls Try.prog 4 #[.agg #[.int .i64 n, .int .i64 v], .int .i64 k] w fun e w' => e = .returned (.bool true) ∧ Below w.heap.size w w' := by
  have hB0 := Bx.here w (.cells #[.int .i64 n, .int .i64 v] 23)
  obtain ⟨a, b, hab⟩ := valueInRow_cases n v k
  have Hab := Lib.hid hab
  clear hab
  have c1 : ∀ w, Calls Try.prog 17 #[.agg #[.int .i64 n, .int .i64 v], .int .i64 k] w fun e w' => e = .returned (.tuple #[.int .i64 a, .int .i64 b]) ∧ Below w.heap.size w w' := fun w => Hab.out ▸ valueInRow_any n v k w
  have c2 : ∀ w, Calls Try.prog 16 #[.agg #[.int .i64 n, .int .i64 v], .int .i64 k] w fun e w' => e = .returned (.tuple #[.int .i64 a, .int .i64 b]) ∧ Below w.heap.size w w' := fun w => Hab.out ▸ specValueInRow_any n v k w
  have C1 := Lib.hid c1
  have C2 := Lib.hid c2
  clear c1 c2
  go_enter Try.func4, Try.ntmps4
  go_wp2_with (first | (go_at_call 14; refine (toTable_any _ _ _).mono ?_; rintro e w' ⟨rfl, hb⟩; have hB := Bx.next (by assumption) hb; obtain ⟨_, _⟩ := hB.tab; have := hB.size; clear hb) | (go_at_call 17; refine (C1.out _).mono ?_; rintro e w' ⟨rfl, hb⟩; have hB := Bx.next (by assumption) hb; obtain ⟨_, _⟩ := hB.tab; have := hB.size; clear hb) | (go_at_call 16; refine (C2.out _).mono ?_; rintro e w' ⟨rfl, hb⟩; have hB := Bx.next (by assumption) hb; obtain ⟨_, _⟩ := hB.tab; have := hB.size; clear hb))
  go_ret
  exact ⟨rfl, (Bx.below (by assumption))⟩

end Go.Proofs.Ytgcdpbikeimelaa
