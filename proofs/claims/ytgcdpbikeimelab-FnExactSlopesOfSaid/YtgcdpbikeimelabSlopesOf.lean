/- SlopesOf: the program's. -/
import Derived.Test.YtgcdpbikeimelabISlo
namespace Go.Proofs.Ytgcdpbikeimelab
open Go.RowKit
set_option linter.unusedVariables false

theorem iSlopesOf_any (n v : Int) (w : World) :
    Calls Try.prog 20 #[.agg #[.int .i64 n, .int .i64 v]] w fun e w' => ∃ u, e = .returned (.tuple #[u, .int .i64 (tabCodeS n v)]) ∧ Owns w' w.heap.size u (sloOf n v) ∧ Below w.heap.size w w' := by
  have k0 := C2.here w (.int .i64 n) (.int .i64 v) 27
  by_cases ht : isTab n v = true
  · obtain ⟨n1, n5, h0, hv⟩ := tab_bd ht
    have hr : Hid (sloOf n v = sloTo n v n.toNat) := by unfold Hid sloOf; rw [if_pos ht]
    have hr2 : Hid (tabCodeS n v = 0) := by unfold Hid tabCodeS; rw [if_pos ht]
    have Ht := Lib.hid ht
    clear ht
    go_enter Try.func20, Try.ntmps20
    go_wp2_with (first | (go_at_call 41; (with_reducible refine (isTable_b _ _ _ Ht.out).mono ?_); rintro e w' ⟨rfl, hb⟩; have hL := chain (B := w.heap.size) (a := w) (by go_grown) (Nat.le_refl _) hb; (first | replace k0 := keepAt hb k0 | replace k0 := keepAt hb (C2.alloc k0 _)); clear hb))
    refine (slopes_any n v _ n1 n5 h0 hv).mono ?_
    rintro e w1 ⟨u, rfl, oo, hb⟩
    have hz := hL.size
    have hL2 := chain (B := w.heap.size) (a := w) (by go_grown) (Nat.le_refl _) hb
    go_wp2_with fail
    go_ret2
    exact ⟨u, by rw [hr2.out]; rfl, by rw [hr.out]; exact oo.mono hz, hL2⟩
  · have hr : Hid (sloOf n v = []) := by unfold Hid sloOf; rw [if_neg ht]
    have hr2 : Hid (tabCodeS n v = 1) := by unfold Hid tabCodeS; rw [if_neg ht]
    have Ht : Hid (isTab n v = false) := by unfold Hid; simpa using ht
    clear ht
    go_enter Try.func20, Try.ntmps20
    go_wp2_with (first | (go_at_call 41; (with_reducible refine (isTable_b _ _ _ Ht.out).mono ?_); rintro e w' ⟨rfl, hb⟩; have hL := chain (B := w.heap.size) (a := w) (by go_grown) (Nat.le_refl _) hb; (first | replace k0 := keepAt hb k0 | replace k0 := keepAt hb (C2.alloc k0 _)); clear hb))
    go_ret2
    exact ⟨_, by rw [hr2.out]; rfl, by rw [hr.out]; exact World.ownsRow_nil _ _ _ _, hL⟩

end Go.Proofs.Ytgcdpbikeimelab
