/- Two arrays of eight numbers compared. -/
import Derived.Test.YtnlcnbkookmfaaaArr
import Derived.ChangeKeysEq
namespace Go.Proofs.Ytnlcnbkookmfaaa
open Go.RowKit
set_option linter.unusedVariables false

theorem part_arr (A : Nat → Int) {j : Nat} (hj : j < 8) (w : World) : (part 2 (arrC A) (j * Try.prog.cellsOf 2)).run Try.prog w = .ok (.int .i64 (A j)) w := by
  have hc : Try.prog.cellsOf 2 = 1 := by kernel_rfl
  rw [hc, Nat.mul_one]
  exact run_part_plain w (by kernel_rfl) (arrC_get A hj)
theorem items_arr (A B : Nat → Int) (w : World) : ∀ (js : List Nat), (∀ j ∈ js, j < 8) → (Op.eqItems 9999 2 (Try.prog.cellsOf 2) (arrC A) (arrC B) js).run Try.prog w = .ok (js.all fun j => A j == B j) w := by
  intro js
  induction js with
  | nil => intro _; simp [Op.eqItems]
  | cons j js ih =>
    intro h
    have hj := h j (by simp)
    have ih' := ih fun i hi => h i (by simp [hi])
    simp only [Op.eqItems, Sem.run_bind, part_arr A hj, part_arr B hj, Result.andThen_ok]
    rw [show (9999 : Nat) = 9998 + 1 from rfl, run_equalIn_int w 9998 2 .i64 .i64 (A j) (B j) Try.underlying2]
    simp only [Result.andThen_ok, List.all_cons]
    cases e : (A j == B j)
    · simp
    · simp only [Bool.not_true, Bool.false_eq_true, if_false, Bool.true_and]
      exact ih'
theorem infoI : ∃ i, Try.prog.info? 2 = some i := by
  have h : (Try.prog.info? 2).isSome = true := by kernel_rfl
  exact Option.isSome_iff_exists.1 h
/-- are the arrays the same -/
def eqA (A B : Nat → Int) : Bool := (List.range 8).all fun j => A j == B j
theorem eqA_yes {A B : Nat → Int} (h : ∀ j, j < 8 → A j = B j) : eqA A B = true := by
  unfold eqA; rw [List.all_eq_true]
  intro j hj
  rw [h j (List.mem_range.1 hj)]; simp
theorem eqA_no {A B : Nat → Int} {j : Nat} (hj : j < 8) (h : A j ≠ B j) : eqA A B = false := by
  unfold eqA; rw [List.all_eq_false]
  exact ⟨j, List.mem_range.2 hj, by simpa using h⟩
theorem eqA_iff {A B : Nat → Int} : eqA A B = true ↔ ∀ j, j < 8 → A j = B j := by
  refine ⟨fun h j hj => Classical.byContradiction fun hn => ?_, eqA_yes⟩
  rw [eqA_no hj hn] at h; cases h
theorem neq_arr (A B : Nat → Int) {b : Bool} (h : eqA A B = b) (w : World) : (binOp .neq 68 (arrV A) (arrV B)).run Try.prog w = .ok (.bool (!b)) w := by
  obtain ⟨i, hi⟩ := infoI
  show (binOp .neq 68 (.agg (arrC A)) (.agg (arrC B))).run Try.prog w = _
  rw [run_neq_struct, show (10000 : Nat) = 9999 + 1 from rfl, run_equalIn_array w 9999 (arrC A) (arrC B) Try.underlying68 hi, items_arr A B w _ (fun j hj => List.mem_range.1 hj)]
  simp only [Result.andThen_ok]
  rw [← h]; rfl

end Go.Proofs.Ytnlcnbkookmfaaa
