/- The walk of FnExactWidenTable. -/
import Derived.Test.YtgcdpbikeimelabWid
import Derived.Deep.RegionHeld3
import Derived.Deep.DeepCutAuto
namespace Go.Proofs.Ytgcdpbikeimelab
open Go.RowKit
set_option linter.unusedVariables false

set_option maxHeartbeats 2000000 in
theorem walkFnExactWidenTable (n0 v0 : Int) (wa0 : (Lit.int .i64 n0).wf = true) (wb0 : (Lit.int .i64 v0).wf = true) (x1 : Int) (wx1 : (Lit.int .i64 x1).wf = true) (w : World) :
    Calls Try.prog 9 #[.agg #[.int .i64 n0, .int .i64 v0], .int .i64 x1] w fun e w' => e = .returned (.bool true) ∧ Below w.heap.size w w' := by
  obtain ⟨a, b, c, habc⟩ := widRes_cases n0 v0 x1
  have D1 : Hid (∀ w, Calls Try.prog 32 #[.agg #[.int .i64 n0, .int .i64 v0], .int .i64 x1] w fun e w' => e = .returned (.tuple #[.agg #[.int .i64 a, .int .i64 b], .int .i64 c]) ∧ Below w.heap.size w w') := fun w => habc ▸ iWidenTable_any n0 v0 x1 w
  have D2 : Hid (∀ w, Calls Try.prog 31 #[.agg #[.int .i64 n0, .int .i64 v0], .int .i64 x1] w fun e w' => e = .returned (.tuple #[.agg #[.int .i64 a, .int .i64 b], .int .i64 c]) ∧ Below w.heap.size w w') := fun w => habc ▸ sWidenTable_any n0 v0 x1 w
  clear habc
  have k0 : C2 (w.alloc (.cells #[.int .i64 n0, .int .i64 v0] 23)) (w.heap.size) (.int .i64 n0) (.int .i64 v0) := by simpa using C2.here w (.int .i64 n0) (.int .i64 v0) 23
  go_enter Try.func9, Try.ntmps9
  have z1k0 := k0.2.2.2.2
  go_upto_region 1 with fail
  go_cut [5, 6] (fun s5 s6 wx => ∃ g : Nat, s5 = .pointer (some ⟨g, 0, none⟩) ∧ s6 = .int .i64 c ∧ Below w.heap.size w wx ∧ C2 wx g (.int .i64 a) (.int .i64 b) ∧ C2 wx w.heap.size (.int .i64 n0) (.int .i64 v0) ∧ w.heap.size < g)
  case first =>
    go_wp2_with (first | (go_at_call 14; (with_reducible refine (toTable_any _ _ _).mono ?_); rintro e w' ⟨rfl, hb⟩; have hL := chain (B := w.heap.size) (a := w) (by go_grown) (Nat.le_refl _) hb; have hz := hb.size; (repeat (first | rw [World.size_alloc] at hz | rw [World.size_setCell] at hz | rw [World.size_drew] at hz)); (first | replace k0 := keepAt hb k0 | replace k0 := keepAt hb (C2.alloc k0 _)); (try replace kn := keepAt hb kn); (try (first | (have kn := keepAt hb (C2.here _ _ _ _)) | (have kn := keepAt hb (C2.hereD _ _ _ _)))); (repeat (first | rw [World.size_alloc] at kn | rw [World.size_drew] at kn)); clear hb) | (go_at_call 31; (with_reducible refine (D2.out _).mono ?_); rintro e w' ⟨rfl, hb⟩; have hL := chain (B := w.heap.size) (a := w) (by go_grown) (Nat.le_refl _) hb; have hz := hb.size; (repeat (first | rw [World.size_alloc] at hz | rw [World.size_setCell] at hz | rw [World.size_drew] at hz)); (first | replace k0 := keepAt hb k0 | replace k0 := keepAt hb (C2.alloc k0 _)); (try replace kn := keepAt hb kn); (try (first | (have kn := keepAt hb (C2.here _ _ _ _)) | (have kn := keepAt hb (C2.hereD _ _ _ _)))); (repeat (first | rw [World.size_alloc] at kn | rw [World.size_drew] at kn)); clear hb))
    go_meet
    exact ⟨_, rfl, rfl, by go_grown, C2.here _ _ _ _, C2.alloc k0 _, by have := hL.size; have := k0.2.2.2.2; omega⟩
  case rest =>
  obtain ⟨gw, rfl, rfl, hL, kw, k0, hggw⟩ := hcut
  have z2k0 := k0.2.2.2.2
  have z2kw := kw.2.2.2.2
  go_upto_region 2 with fail
  go_cut [7, 8] (fun s7 s8 wx => ∃ g : Nat, s7 = .pointer (some ⟨g, 0, none⟩) ∧ s8 = .int .i64 c ∧ Below w.heap.size w wx ∧ C2 wx g (.int .i64 a) (.int .i64 b) ∧ C2 wx w.heap.size (.int .i64 n0) (.int .i64 v0) ∧ C2 wx gw (.int .i64 a) (.int .i64 b) ∧ w.heap.size < g)
  case first =>
    go_wp2_with (first | (go_at_call 14; (with_reducible refine (toTable_any _ _ _).mono ?_); rintro e w' ⟨rfl, hb⟩; have hL := chain (B := w.heap.size) (a := w) (by go_grown) (Nat.le_refl _) hb; have hz := hb.size; (repeat (first | rw [World.size_alloc] at hz | rw [World.size_setCell] at hz | rw [World.size_drew] at hz)); (first | replace k0 := keepAt hb k0 | replace k0 := keepAt hb (C2.alloc k0 _)); (first | replace kw := keepAt hb kw | replace kw := keepAt hb (C2.alloc kw _)); (try replace kn := keepAt hb kn); (try (first | (have kn := keepAt hb (C2.here _ _ _ _)) | (have kn := keepAt hb (C2.hereD _ _ _ _)))); (repeat (first | rw [World.size_alloc] at kn | rw [World.size_drew] at kn)); clear hb) | (go_at_call 32; (with_reducible refine (D1.out _).mono ?_); rintro e w' ⟨rfl, hb⟩; have hL := chain (B := w.heap.size) (a := w) (by go_grown) (Nat.le_refl _) hb; have hz := hb.size; (repeat (first | rw [World.size_alloc] at hz | rw [World.size_setCell] at hz | rw [World.size_drew] at hz)); (first | replace k0 := keepAt hb k0 | replace k0 := keepAt hb (C2.alloc k0 _)); (first | replace kw := keepAt hb kw | replace kw := keepAt hb (C2.alloc kw _)); (try replace kn := keepAt hb kn); (try (first | (have kn := keepAt hb (C2.here _ _ _ _)) | (have kn := keepAt hb (C2.hereD _ _ _ _)))); (repeat (first | rw [World.size_alloc] at kn | rw [World.size_drew] at kn)); clear hb))
    go_meet
    exact ⟨_, rfl, rfl, by go_grown, C2.here _ _ _ _, C2.alloc k0 _, C2.alloc kw _, by have := hL.size; have := k0.2.2.2.2; omega⟩
  case rest =>
  obtain ⟨gg, rfl, rfl, hL, kg, k0, kw, hggg⟩ := hcut
  go_wp2_with (first | (go_at_call 26; (with_reducible refine (eqTable_same _ _ _).mono ?_); rintro e w' ⟨rfl, hb⟩; have hL := chain (B := w.heap.size) (a := w) (by go_grown) (Nat.le_refl _) hb; (first | replace k0 := keepAt hb k0 | replace k0 := keepAt hb (C2.alloc k0 _)); (first | replace kw := keepAt hb kw | replace kw := keepAt hb (C2.alloc kw _)); (first | replace kg := keepAt hb kg | replace kg := keepAt hb (C2.alloc kg _)); clear hb))
  go_ret
  exact ⟨rfl, by first | assumption | go_grown⟩

end Go.Proofs.Ytgcdpbikeimelab
