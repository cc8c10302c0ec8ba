/- WidenTable: the model's. -/
import Derived.Test.YtgcdpbikeimelabWid1
namespace Go.Proofs.Ytgcdpbikeimelab
open Go.RowKit
set_option linter.unusedVariables false

theorem sWidenTable_any (n v m : Int) (w : World) :
    Calls Try.prog 31 #[.agg #[.int .i64 n, .int .i64 v], .int .i64 m] w fun e w' => e = .returned (widRes n v m) ∧ Below w.heap.size w w' := by
  have k0 : C2 ((w.alloc (.cells #[.int .i64 n, .int .i64 v] 27)).alloc (.cells #[.int .i64 0, .int .i64 0] 27)) (w.heap.size) (.int .i64 n) (.int .i64 v) := by simpa using (C2.here w (.int .i64 n) (.int .i64 v) 27).alloc (.cells #[.int .i64 0, .int .i64 0] 27)
  have k1 : C2 ((w.alloc (.cells #[.int .i64 n, .int .i64 v] 27)).alloc (.cells #[.int .i64 0, .int .i64 0] 27)) (w.heap.size + 1) (.int .i64 0) (.int .i64 0) := by simpa using C2.here (w.alloc (.cells #[.int .i64 n, .int .i64 v] 27)) (.int .i64 0) (.int .i64 0) 27
  by_cases ht : isTab n v = true
  · obtain ⟨n1, n5, h0, hv⟩ := tab_bd ht
    by_cases hm : n ≤ m ∧ m ≤ 5
    · have hr : Hid (widRes n v m = .tuple #[.agg #[.int .i64 m, .int .i64 (widVals n v m)], .int .i64 0]) := by unfold Hid widRes; rw [if_pos ht, if_pos hm]
      have Hm := Lib.hid hm
      have Ht := Lib.hid ht
      obtain ⟨m1, m5⟩ := hm
      clear ht
      go_enter Try.func31, Try.ntmps31
      go_wp2_with (first | (go_at_call 39; (with_reducible refine (l01Is_b _ _ _ Ht.out).mono ?_); rintro e w' ⟨rfl, hb⟩; have hL := chain (B := w.heap.size) (a := w) (by go_grown) (Nat.le_refl _) hb; (first | replace k0 := keepAt hb k0 | replace k0 := keepAt hb (C2.alloc k0 _)); (first | replace k1 := keepAt hb k1 | replace k1 := keepAt hb (C2.alloc k1 _)); clear hb) | (go_at_call 50; (with_reducible refine (l01In_yes _ _ _ _ Hm.out).mono ?_); rintro e w' ⟨rfl, rfl⟩) | (go_at_call 58; (with_reducible refine (l01Widen_any _ _ _ _ n1 n5 h0 hv m1 m5).mono ?_); rintro e w' ⟨rfl, hb⟩; have hL := chain (B := w.heap.size) (a := w) (by go_grown) (Nat.le_refl _) hb; (first | replace k0 := keepAt hb k0 | replace k0 := keepAt hb (C2.alloc k0 _)); (first | replace k1 := keepAt hb k1 | replace k1 := keepAt hb (C2.alloc k1 _)); clear hb))
      refine bodyPost_ret (v := .tuple #[.agg #[.int .i64 m, .int .i64 (widVals n v m)], .int .i64 0]) (by simp [results, Try.results31, go_sem, *]) rfl ?_
      exact ⟨by rw [hr.out], by go_grown⟩
    · have hr : Hid (widRes n v m = .tuple #[.agg #[.int .i64 0, .int .i64 0], .int .i64 2]) := by unfold Hid widRes; rw [if_pos ht, if_neg hm]
      have Hm := Lib.hid hm
      have Ht := Lib.hid ht
      clear ht hm
      go_enter Try.func31, Try.ntmps31
      go_wp2_with (first | (go_at_call 39; (with_reducible refine (l01Is_b _ _ _ Ht.out).mono ?_); rintro e w' ⟨rfl, hb⟩; have hL := chain (B := w.heap.size) (a := w) (by go_grown) (Nat.le_refl _) hb; (first | replace k0 := keepAt hb k0 | replace k0 := keepAt hb (C2.alloc k0 _)); (first | replace k1 := keepAt hb k1 | replace k1 := keepAt hb (C2.alloc k1 _)); clear hb) | (go_at_call 50; (with_reducible refine (l01In_no _ _ _ _ Hm.out).mono ?_); rintro e w' ⟨rfl, rfl⟩))
      refine bodyPost_ret (v := .tuple #[.agg #[.int .i64 0, .int .i64 0], .int .i64 2]) (by simp [results, Try.results31, go_sem, *]) rfl ?_
      exact ⟨by rw [hr.out], by go_grown⟩
  · have hr : Hid (widRes n v m = .tuple #[.agg #[.int .i64 0, .int .i64 0], .int .i64 1]) := by unfold Hid widRes; rw [if_neg ht]
    have Ht : Hid (isTab n v = false) := by unfold Hid; simpa using ht
    clear ht
    go_enter Try.func31, Try.ntmps31
    go_wp2_with (first | (go_at_call 39; (with_reducible refine (l01Is_b _ _ _ Ht.out).mono ?_); rintro e w' ⟨rfl, hb⟩; have hL := chain (B := w.heap.size) (a := w) (by go_grown) (Nat.le_refl _) hb; (first | replace k0 := keepAt hb k0 | replace k0 := keepAt hb (C2.alloc k0 _)); (first | replace k1 := keepAt hb k1 | replace k1 := keepAt hb (C2.alloc k1 _)); clear hb))
    refine bodyPost_ret (v := .tuple #[.agg #[.int .i64 0, .int .i64 0], .int .i64 1]) (by simp [results, Try.results31, go_sem, *]) rfl ?_
    exact ⟨by rw [hr.out], by go_grown⟩

end Go.Proofs.Ytgcdpbikeimelab
