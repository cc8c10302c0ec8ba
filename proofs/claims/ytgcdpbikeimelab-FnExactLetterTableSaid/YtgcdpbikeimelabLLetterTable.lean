/- The walk of FnExactLetterTable. -/
import Derived.Test.YtgcdpbikeimelabLet
import Derived.Deep.RegionHeld3
import Derived.Deep.DeepCutAuto
namespace Go.Proofs.Ytgcdpbikeimelab
open Go.RowKit
set_option linter.unusedVariables false

set_option maxHeartbeats 2000000 in
theorem walkFnExactLetterTable (x0 : Int) (wx0 : (Lit.int .i64 x0).wf = true) (x1 : Int) (wx1 : (Lit.int .i64 x1).wf = true) (w : World) :
    Calls Try.prog 11 #[.int .i64 x0, .int .i64 x1] w fun e w' => e = .returned (.bool true) ∧ Below w.heap.size w w' := by
  obtain ⟨a, b, c, habc⟩ := letRes_cases x0 x1
  have D1 : Hid (∀ w, Calls Try.prog 36 #[.int .i64 x0, .int .i64 x1] w fun e w' => e = .returned (.tuple #[.agg #[.int .i64 a, .int .i64 b], .int .i64 c]) ∧ Below w.heap.size w w') := fun w => habc ▸ iLetterTable_any x0 x1 w
  have D2 : Hid (∀ w, Calls Try.prog 35 #[.int .i64 x0, .int .i64 x1] w fun e w' => e = .returned (.tuple #[.agg #[.int .i64 a, .int .i64 b], .int .i64 c]) ∧ Below w.heap.size w w') := fun w => habc ▸ sLetterTable_any x0 x1 w
  clear habc
  go_enter Try.func11, Try.ntmps11
  go_upto_region 1 with fail
  go_cut [5, 6] (fun s5 s6 wx => ∃ g : Nat, s5 = .pointer (some ⟨g, 0, none⟩) ∧ s6 = .int .i64 c ∧ Below w.heap.size w wx ∧ C2 wx g (.int .i64 a) (.int .i64 b) ∧ w.heap.size ≤ g)
  case first =>
    go_wp2_with (first | (go_at_call 35; (with_reducible refine (D2.out _).mono ?_); rintro e w' ⟨rfl, hb⟩; have hL := chain (B := w.heap.size) (a := w) (by go_grown) (Nat.le_refl _) hb; have hz := hb.size; (repeat (first | rw [World.size_alloc] at hz | rw [World.size_setCell] at hz | rw [World.size_drew] at hz)); (try replace kn := keepAt hb kn); (try (first | (have kn := keepAt hb (C2.here _ _ _ _)) | (have kn := keepAt hb (C2.hereD _ _ _ _)))); (repeat (first | rw [World.size_alloc] at kn | rw [World.size_drew] at kn)); clear hb))
    go_meet
    exact ⟨_, rfl, rfl, by go_grown, C2.here _ _ _ _, by have := hL.size; omega⟩
  case rest =>
  obtain ⟨gw, rfl, rfl, hL, kw, hggw⟩ := hcut
  have z2kw := kw.2.2.2.2
  go_upto_region 2 with fail
  go_cut [7, 8] (fun s7 s8 wx => ∃ g : Nat, s7 = .pointer (some ⟨g, 0, none⟩) ∧ s8 = .int .i64 c ∧ Below w.heap.size w wx ∧ C2 wx g (.int .i64 a) (.int .i64 b) ∧ C2 wx gw (.int .i64 a) (.int .i64 b) ∧ w.heap.size ≤ g)
  case first =>
    go_wp2_with (first | (go_at_call 36; (with_reducible refine (D1.out _).mono ?_); rintro e w' ⟨rfl, hb⟩; have hL := chain (B := w.heap.size) (a := w) (by go_grown) (Nat.le_refl _) hb; have hz := hb.size; (repeat (first | rw [World.size_alloc] at hz | rw [World.size_setCell] at hz | rw [World.size_drew] at hz)); (first | replace kw := keepAt hb kw | replace kw := keepAt hb (C2.alloc kw _)); (try replace kn := keepAt hb kn); (try (first | (have kn := keepAt hb (C2.here _ _ _ _)) | (have kn := keepAt hb (C2.hereD _ _ _ _)))); (repeat (first | rw [World.size_alloc] at kn | rw [World.size_drew] at kn)); clear hb))
    go_meet
    exact ⟨_, rfl, rfl, by go_grown, C2.here _ _ _ _, C2.alloc kw _, by have := hL.size; omega⟩
  case rest =>
  obtain ⟨gg, rfl, rfl, hL, kg, kw, hggg⟩ := hcut
  go_wp2_with (first | (go_at_call 26; (with_reducible refine (eqTable_same _ _ _).mono ?_); rintro e w' ⟨rfl, hb⟩; have hL := chain (B := w.heap.size) (a := w) (by go_grown) (Nat.le_refl _) hb; (first | replace kw := keepAt hb kw | replace kw := keepAt hb (C2.alloc kw _)); (first | replace kg := keepAt hb kg | replace kg := keepAt hb (C2.alloc kg _)); clear hb))
  go_ret
  exact ⟨rfl, by first | assumption | go_grown⟩

end Go.Proofs.Ytgcdpbikeimelab
