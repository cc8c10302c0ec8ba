/- DualOf: the model's. -/
import Derived.Test.YtgcdpbikeimelaaDual1
namespace Go.Proofs.Ytgcdpbikeimelaa
open Go.RowKit
set_option linter.unusedVariables false

theorem sDualOf_any (n v : Int) (w : World) :
    Calls Try.prog 29 #[.agg #[.int .i64 n, .int .i64 v]] w fun e w' => e = .returned (dualRes n v) ∧ Below w.heap.size w w' := by
  have k0 : C2 ((w.alloc (.cells #[.int .i64 n, .int .i64 v] 25)).alloc (.cells #[.int .i64 0, .int .i64 0] 25)) (w.heap.size) (.int .i64 n) (.int .i64 v) := by simpa using (C2.here w (.int .i64 n) (.int .i64 v) 25).alloc (.cells #[.int .i64 0, .int .i64 0] 25)
  have k1 : C2 ((w.alloc (.cells #[.int .i64 n, .int .i64 v] 25)).alloc (.cells #[.int .i64 0, .int .i64 0] 25)) (w.heap.size + 1) (.int .i64 0) (.int .i64 0) := by simpa using C2.here (w.alloc (.cells #[.int .i64 n, .int .i64 v] 25)) (.int .i64 0) (.int .i64 0) 25
  by_cases ht : isTab n v = true
  · obtain ⟨n1, n5, h0, hv⟩ := tab_bd ht
    have hr : Hid (dualRes n v = .tuple #[.agg #[.int .i64 n, .int .i64 (dualVals n v)], .int .i64 0]) := by unfold Hid dualRes; rw [if_pos ht]
    have Ht := Lib.hid ht
    clear ht
    go_enter Try.func29, Try.ntmps29
    go_wp2_with (first | (go_at_call 39; (with_reducible refine (l01Is_b _ _ _ Ht.out).mono ?_); rintro e w' ⟨rfl, hb⟩; have hL := chain (B := w.heap.size) (a := w) (by go_grown) (Nat.le_refl _) hb; (first | replace k0 := keepAt hb k0 | replace k0 := keepAt hb (C2.alloc k0 _)); (first | replace k1 := keepAt hb k1 | replace k1 := keepAt hb (C2.alloc k1 _)); clear hb) | (go_at_call 52; (with_reducible refine (l01Dual_any _ _ _ n1 n5 h0 hv).mono ?_); rintro e w' ⟨rfl, hb⟩; have hL := chain (B := w.heap.size) (a := w) (by go_grown) (Nat.le_refl _) hb; (first | replace k0 := keepAt hb k0 | replace k0 := keepAt hb (C2.alloc k0 _)); (first | replace k1 := keepAt hb k1 | replace k1 := keepAt hb (C2.alloc k1 _)); clear hb))
    refine bodyPost_ret (v := .tuple #[.agg #[.int .i64 n, .int .i64 (dualVals n v)], .int .i64 0]) (by simp [results, Try.results29, go_sem, *]) rfl ?_
    exact ⟨by rw [hr.out], by go_grown⟩
  · have hr : Hid (dualRes n v = .tuple #[.agg #[.int .i64 0, .int .i64 0], .int .i64 1]) := by unfold Hid dualRes; rw [if_neg ht]
    have Ht : Hid (isTab n v = false) := by unfold Hid; simpa using ht
    clear ht
    go_enter Try.func29, Try.ntmps29
    go_wp2_with (first | (go_at_call 39; (with_reducible refine (l01Is_b _ _ _ Ht.out).mono ?_); rintro e w' ⟨rfl, hb⟩; have hL := chain (B := w.heap.size) (a := w) (by go_grown) (Nat.le_refl _) hb; (first | replace k0 := keepAt hb k0 | replace k0 := keepAt hb (C2.alloc k0 _)); (first | replace k1 := keepAt hb k1 | replace k1 := keepAt hb (C2.alloc k1 _)); clear hb))
    refine bodyPost_ret (v := .tuple #[.agg #[.int .i64 0, .int .i64 0], .int .i64 1]) (by simp [results, Try.results29, go_sem, *]) rfl ?_
    exact ⟨by rw [hr.out], by go_grown⟩

end Go.Proofs.Ytgcdpbikeimelaa
