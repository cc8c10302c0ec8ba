/- PartOf: the program's and the model's. -/
import Derived.Test.YtgcdpbikeimelaaSPart
namespace Go.Proofs.Ytgcdpbikeimelaa
open Go.RowKit
set_option linter.unusedVariables false

/-- what PartOf gives -/
def partRes (n v i value : Int) : Value :=
  if isTab n v = true then (if (0 ≤ i ∧ i < n) ∧ 0 ≤ value ∧ value < 2 then .tuple #[.agg #[.int .i64 n, .int .i64 (partVals n v i value)], .int .i64 0] else .tuple #[.agg #[.int .i64 0, .int .i64 0], .int .i64 2])
  else .tuple #[.agg #[.int .i64 0, .int .i64 0], .int .i64 1]
theorem partRes_cases (n v i value : Int) : ∃ a b c : Int, partRes n v i value = .tuple #[.agg #[.int .i64 a, .int .i64 b], .int .i64 c] := by
  unfold partRes; split
  · split <;> exact ⟨_, _, _, rfl⟩
  · exact ⟨_, _, _, rfl⟩

set_option maxHeartbeats 1000000 in
theorem iPartOf_any (n v i value : Int) (w : World) :
    Calls Try.prog 38 #[.agg #[.int .i64 n, .int .i64 v], .int .i64 i, .int .i64 value] w fun e w' => e = .returned (partRes n v i value) ∧ Below w.heap.size w w' := by
  by_cases ht : isTab n v = true
  · obtain ⟨n1, n5, h0, hv⟩ := tab_bd ht
    by_cases hi : 0 ≤ i ∧ i < n
    · by_cases hvl : 0 ≤ value ∧ value < 2
      · have hr : Hid (partRes n v i value = .tuple #[.agg #[.int .i64 n, .int .i64 (partVals n v i value)], .int .i64 0]) := by unfold Hid partRes; rw [if_pos ht, if_pos ⟨hi, hvl⟩]
        have Hi : Hid (0 ≤ i ∧ i < n) := ⟨hi.1, by omega⟩
        have Hv : Hid (0 ≤ value ∧ value < 2) := ⟨hvl.1, by omega⟩
        have Ht := Lib.hid ht
        obtain ⟨i0, in_⟩ := hi
        obtain ⟨v0, v1⟩ := hvl
        clear ht
        have k0 : C2 ((w.alloc (.cells #[.int .i64 n, .int .i64 v] 25)).alloc (.cells #[.int .i64 0, .int .i64 0] 25)) (w.heap.size) (.int .i64 n) (.int .i64 v) := by simpa using (C2.here w (.int .i64 n) (.int .i64 v) 25).alloc (.cells #[.int .i64 0, .int .i64 0] 25)
        have k1 : C2 ((w.alloc (.cells #[.int .i64 n, .int .i64 v] 25)).alloc (.cells #[.int .i64 0, .int .i64 0] 25)) (w.heap.size + 1) (.int .i64 0) (.int .i64 0) := by simpa using C2.here (w.alloc (.cells #[.int .i64 n, .int .i64 v] 25)) (.int .i64 0) (.int .i64 0) 25
        go_enter Try.func38, Try.ntmps38
        go_wp2_with (first | (go_at_call 15; (with_reducible refine (isTable_b _ _ _ Ht.out).mono ?_); rintro e w' ⟨rfl, hb⟩; have hL := chain (B := w.heap.size) (a := w) (by go_grown) (Nat.le_refl _) hb; (first | replace k0 := keepAt hb k0 | replace k0 := keepAt hb (C2.alloc k0 _)); (first | replace k1 := keepAt hb k1 | replace k1 := keepAt hb (C2.alloc k1 _)); clear hb) | (go_at_call 45; (with_reducible refine (isBelow_yes _ _ _ Hi.out).mono ?_); rintro e w' ⟨rfl, rfl⟩) | (go_at_call 45; (with_reducible refine (isBelow_yes _ _ _ Hv.out).mono ?_); rintro e w' ⟨rfl, rfl⟩) | (go_at_call 60; (with_reducible refine (part_any _ _ _ _ _ n1 n5 h0 hv i0 in_ v0 (by omega)).mono ?_); rintro e w' ⟨rfl, hb⟩; have hL := chain (B := w.heap.size) (a := w) (by go_grown) (Nat.le_refl _) hb; (first | replace k0 := keepAt hb k0 | replace k0 := keepAt hb (C2.alloc k0 _)); (first | replace k1 := keepAt hb k1 | replace k1 := keepAt hb (C2.alloc k1 _)); clear hb))
        refine bodyPost_ret (v := .tuple #[.agg #[.int .i64 n, .int .i64 (partVals n v i value)], .int .i64 0]) (by simp [results, Try.results38, go_sem, *]) rfl ?_
        exact ⟨by rw [hr.out], by go_grown⟩
      · have hr : Hid (partRes n v i value = .tuple #[.agg #[.int .i64 0, .int .i64 0], .int .i64 2]) := by unfold Hid partRes; rw [if_pos ht, if_neg (fun h => hvl h.2)]
        have Hi : Hid (0 ≤ i ∧ i < n) := ⟨hi.1, by omega⟩
        have Hv : Hid (¬ (0 ≤ value ∧ value < 2)) := by unfold Hid; omega
        have Ht := Lib.hid ht
        clear ht hi hvl
        have k0 : C2 ((w.alloc (.cells #[.int .i64 n, .int .i64 v] 25)).alloc (.cells #[.int .i64 0, .int .i64 0] 25)) (w.heap.size) (.int .i64 n) (.int .i64 v) := by simpa using (C2.here w (.int .i64 n) (.int .i64 v) 25).alloc (.cells #[.int .i64 0, .int .i64 0] 25)
        have k1 : C2 ((w.alloc (.cells #[.int .i64 n, .int .i64 v] 25)).alloc (.cells #[.int .i64 0, .int .i64 0] 25)) (w.heap.size + 1) (.int .i64 0) (.int .i64 0) := by simpa using C2.here (w.alloc (.cells #[.int .i64 n, .int .i64 v] 25)) (.int .i64 0) (.int .i64 0) 25
        go_enter Try.func38, Try.ntmps38
        go_wp2_with (first | (go_at_call 15; (with_reducible refine (isTable_b _ _ _ Ht.out).mono ?_); rintro e w' ⟨rfl, hb⟩; have hL := chain (B := w.heap.size) (a := w) (by go_grown) (Nat.le_refl _) hb; (first | replace k0 := keepAt hb k0 | replace k0 := keepAt hb (C2.alloc k0 _)); (first | replace k1 := keepAt hb k1 | replace k1 := keepAt hb (C2.alloc k1 _)); clear hb) | (go_at_call 45; (with_reducible refine (isBelow_yes _ _ _ Hi.out).mono ?_); rintro e w' ⟨rfl, rfl⟩) | (go_at_call 45; (with_reducible refine (isBelow_no _ _ _ Hv.out).mono ?_); rintro e w' ⟨rfl, rfl⟩))
        refine bodyPost_ret (v := .tuple #[.agg #[.int .i64 0, .int .i64 0], .int .i64 2]) (by simp [results, Try.results38, go_sem, *]) rfl ?_
        exact ⟨by rw [hr.out], by go_grown⟩
    · have hr : Hid (partRes n v i value = .tuple #[.agg #[.int .i64 0, .int .i64 0], .int .i64 2]) := by unfold Hid partRes; rw [if_pos ht, if_neg (fun h => hi h.1)]
      have Hi : Hid (¬ (0 ≤ i ∧ i < n)) := by unfold Hid; omega
      have Ht := Lib.hid ht
      clear ht hi
      have k0 : C2 ((w.alloc (.cells #[.int .i64 n, .int .i64 v] 25)).alloc (.cells #[.int .i64 0, .int .i64 0] 25)) (w.heap.size) (.int .i64 n) (.int .i64 v) := by simpa using (C2.here w (.int .i64 n) (.int .i64 v) 25).alloc (.cells #[.int .i64 0, .int .i64 0] 25)
      have k1 : C2 ((w.alloc (.cells #[.int .i64 n, .int .i64 v] 25)).alloc (.cells #[.int .i64 0, .int .i64 0] 25)) (w.heap.size + 1) (.int .i64 0) (.int .i64 0) := by simpa using C2.here (w.alloc (.cells #[.int .i64 n, .int .i64 v] 25)) (.int .i64 0) (.int .i64 0) 25
      go_enter Try.func38, Try.ntmps38
      go_wp2_with (first | (go_at_call 15; (with_reducible refine (isTable_b _ _ _ Ht.out).mono ?_); rintro e w' ⟨rfl, hb⟩; have hL := chain (B := w.heap.size) (a := w) (by go_grown) (Nat.le_refl _) hb; (first | replace k0 := keepAt hb k0 | replace k0 := keepAt hb (C2.alloc k0 _)); (first | replace k1 := keepAt hb k1 | replace k1 := keepAt hb (C2.alloc k1 _)); clear hb) | (go_at_call 45; (with_reducible refine (isBelow_no _ _ _ Hi.out).mono ?_); rintro e w' ⟨rfl, rfl⟩))
      refine bodyPost_ret (v := .tuple #[.agg #[.int .i64 0, .int .i64 0], .int .i64 2]) (by simp [results, Try.results38, go_sem, *]) rfl ?_
      exact ⟨by rw [hr.out], by go_grown⟩
  · have hr : Hid (partRes n v i value = .tuple #[.agg #[.int .i64 0, .int .i64 0], .int .i64 1]) := by unfold Hid partRes; rw [if_neg ht]
    have Ht : Hid (isTab n v = false) := by unfold Hid; simpa using ht
    clear ht
    have k0 : C2 ((w.alloc (.cells #[.int .i64 n, .int .i64 v] 25)).alloc (.cells #[.int .i64 0, .int .i64 0] 25)) (w.heap.size) (.int .i64 n) (.int .i64 v) := by simpa using (C2.here w (.int .i64 n) (.int .i64 v) 25).alloc (.cells #[.int .i64 0, .int .i64 0] 25)
    have k1 : C2 ((w.alloc (.cells #[.int .i64 n, .int .i64 v] 25)).alloc (.cells #[.int .i64 0, .int .i64 0] 25)) (w.heap.size + 1) (.int .i64 0) (.int .i64 0) := by simpa using C2.here (w.alloc (.cells #[.int .i64 n, .int .i64 v] 25)) (.int .i64 0) (.int .i64 0) 25
    go_enter Try.func38, Try.ntmps38
    go_wp2_with (first | (go_at_call 15; (with_reducible refine (isTable_b _ _ _ Ht.out).mono ?_); rintro e w' ⟨rfl, hb⟩; have hL := chain (B := w.heap.size) (a := w) (by go_grown) (Nat.le_refl _) hb; (first | replace k0 := keepAt hb k0 | replace k0 := keepAt hb (C2.alloc k0 _)); (first | replace k1 := keepAt hb k1 | replace k1 := keepAt hb (C2.alloc k1 _)); clear hb))
    refine bodyPost_ret (v := .tuple #[.agg #[.int .i64 0, .int .i64 0], .int .i64 1]) (by simp [results, Try.results38, go_sem, *]) rfl ?_
    exact ⟨by rw [hr.out], by go_grown⟩

set_option maxHeartbeats 1000000 in
theorem sPartOf_any (n v i value : Int) (w : World) :
    Calls Try.prog 37 #[.agg #[.int .i64 n, .int .i64 v], .int .i64 i, .int .i64 value] w fun e w' => e = .returned (partRes n v i value) ∧ Below w.heap.size w w' := by
  by_cases ht : isTab n v = true
  · obtain ⟨n1, n5, h0, hv⟩ := tab_bd ht
    by_cases hi : 0 ≤ i ∧ i < n
    · by_cases hvl : 0 ≤ value ∧ value < 2
      · have hr : Hid (partRes n v i value = .tuple #[.agg #[.int .i64 n, .int .i64 (partVals n v i value)], .int .i64 0]) := by unfold Hid partRes; rw [if_pos ht, if_pos ⟨hi, hvl⟩]
        have Hi : Hid (0 ≤ i ∧ i ≤ n - 1) := ⟨hi.1, by omega⟩
        have Hv : Hid (0 ≤ value ∧ value ≤ 1) := ⟨hvl.1, by omega⟩
        have Ht := Lib.hid ht
        obtain ⟨i0, in_⟩ := hi
        obtain ⟨v0, v1⟩ := hvl
        clear ht
        have k0 : C2 ((w.alloc (.cells #[.int .i64 n, .int .i64 v] 25)).alloc (.cells #[.int .i64 0, .int .i64 0] 25)) (w.heap.size) (.int .i64 n) (.int .i64 v) := by simpa using (C2.here w (.int .i64 n) (.int .i64 v) 25).alloc (.cells #[.int .i64 0, .int .i64 0] 25)
        have k1 : C2 ((w.alloc (.cells #[.int .i64 n, .int .i64 v] 25)).alloc (.cells #[.int .i64 0, .int .i64 0] 25)) (w.heap.size + 1) (.int .i64 0) (.int .i64 0) := by simpa using C2.here (w.alloc (.cells #[.int .i64 n, .int .i64 v] 25)) (.int .i64 0) (.int .i64 0) 25
        go_enter Try.func37, Try.ntmps37
        go_wp2_with (first | (go_at_call 39; (with_reducible refine (l01Is_b _ _ _ Ht.out).mono ?_); rintro e w' ⟨rfl, hb⟩; have hL := chain (B := w.heap.size) (a := w) (by go_grown) (Nat.le_refl _) hb; (first | replace k0 := keepAt hb k0 | replace k0 := keepAt hb (C2.alloc k0 _)); (first | replace k1 := keepAt hb k1 | replace k1 := keepAt hb (C2.alloc k1 _)); clear hb) | (go_at_call 42; (with_reducible refine (l01In_yes _ _ _ _ Hi.out).mono ?_); rintro e w' ⟨rfl, rfl⟩) | (go_at_call 42; (with_reducible refine (l01In_yes _ _ _ _ Hv.out).mono ?_); rintro e w' ⟨rfl, rfl⟩) | (go_at_call 59; (with_reducible refine (l01Part_any _ _ _ _ _ n1 n5 h0 hv i0 in_ v0 (by omega)).mono ?_); rintro e w' ⟨rfl, hb⟩; have hL := chain (B := w.heap.size) (a := w) (by go_grown) (Nat.le_refl _) hb; (first | replace k0 := keepAt hb k0 | replace k0 := keepAt hb (C2.alloc k0 _)); (first | replace k1 := keepAt hb k1 | replace k1 := keepAt hb (C2.alloc k1 _)); clear hb))
        refine bodyPost_ret (v := .tuple #[.agg #[.int .i64 n, .int .i64 (partVals n v i value)], .int .i64 0]) (by simp [results, Try.results37, go_sem, *]) rfl ?_
        exact ⟨by rw [hr.out], by go_grown⟩
      · have hr : Hid (partRes n v i value = .tuple #[.agg #[.int .i64 0, .int .i64 0], .int .i64 2]) := by unfold Hid partRes; rw [if_pos ht, if_neg (fun h => hvl h.2)]
        have Hi : Hid (0 ≤ i ∧ i ≤ n - 1) := ⟨hi.1, by omega⟩
        have Hv : Hid (¬ (0 ≤ value ∧ value ≤ 1)) := by unfold Hid; omega
        have Ht := Lib.hid ht
        clear ht hi hvl
        have k0 : C2 ((w.alloc (.cells #[.int .i64 n, .int .i64 v] 25)).alloc (.cells #[.int .i64 0, .int .i64 0] 25)) (w.heap.size) (.int .i64 n) (.int .i64 v) := by simpa using (C2.here w (.int .i64 n) (.int .i64 v) 25).alloc (.cells #[.int .i64 0, .int .i64 0] 25)
        have k1 : C2 ((w.alloc (.cells #[.int .i64 n, .int .i64 v] 25)).alloc (.cells #[.int .i64 0, .int .i64 0] 25)) (w.heap.size + 1) (.int .i64 0) (.int .i64 0) := by simpa using C2.here (w.alloc (.cells #[.int .i64 n, .int .i64 v] 25)) (.int .i64 0) (.int .i64 0) 25
        go_enter Try.func37, Try.ntmps37
        go_wp2_with (first | (go_at_call 39; (with_reducible refine (l01Is_b _ _ _ Ht.out).mono ?_); rintro e w' ⟨rfl, hb⟩; have hL := chain (B := w.heap.size) (a := w) (by go_grown) (Nat.le_refl _) hb; (first | replace k0 := keepAt hb k0 | replace k0 := keepAt hb (C2.alloc k0 _)); (first | replace k1 := keepAt hb k1 | replace k1 := keepAt hb (C2.alloc k1 _)); clear hb) | (go_at_call 42; (with_reducible refine (l01In_yes _ _ _ _ Hi.out).mono ?_); rintro e w' ⟨rfl, rfl⟩) | (go_at_call 42; (with_reducible refine (l01In_no _ _ _ _ Hv.out).mono ?_); rintro e w' ⟨rfl, rfl⟩))
        refine bodyPost_ret (v := .tuple #[.agg #[.int .i64 0, .int .i64 0], .int .i64 2]) (by simp [results, Try.results37, go_sem, *]) rfl ?_
        exact ⟨by rw [hr.out], by go_grown⟩
    · have hr : Hid (partRes n v i value = .tuple #[.agg #[.int .i64 0, .int .i64 0], .int .i64 2]) := by unfold Hid partRes; rw [if_pos ht, if_neg (fun h => hi h.1)]
      have Hi : Hid (¬ (0 ≤ i ∧ i ≤ n - 1)) := by unfold Hid; omega
      have Ht := Lib.hid ht
      clear ht hi
      have k0 : C2 ((w.alloc (.cells #[.int .i64 n, .int .i64 v] 25)).alloc (.cells #[.int .i64 0, .int .i64 0] 25)) (w.heap.size) (.int .i64 n) (.int .i64 v) := by simpa using (C2.here w (.int .i64 n) (.int .i64 v) 25).alloc (.cells #[.int .i64 0, .int .i64 0] 25)
      have k1 : C2 ((w.alloc (.cells #[.int .i64 n, .int .i64 v] 25)).alloc (.cells #[.int .i64 0, .int .i64 0] 25)) (w.heap.size + 1) (.int .i64 0) (.int .i64 0) := by simpa using C2.here (w.alloc (.cells #[.int .i64 n, .int .i64 v] 25)) (.int .i64 0) (.int .i64 0) 25
      go_enter Try.func37, Try.ntmps37
      go_wp2_with (first | (go_at_call 39; (with_reducible refine (l01Is_b _ _ _ Ht.out).mono ?_); rintro e w' ⟨rfl, hb⟩; have hL := chain (B := w.heap.size) (a := w) (by go_grown) (Nat.le_refl _) hb; (first | replace k0 := keepAt hb k0 | replace k0 := keepAt hb (C2.alloc k0 _)); (first | replace k1 := keepAt hb k1 | replace k1 := keepAt hb (C2.alloc k1 _)); clear hb) | (go_at_call 42; (with_reducible refine (l01In_no _ _ _ _ Hi.out).mono ?_); rintro e w' ⟨rfl, rfl⟩))
      refine bodyPost_ret (v := .tuple #[.agg #[.int .i64 0, .int .i64 0], .int .i64 2]) (by simp [results, Try.results37, go_sem, *]) rfl ?_
      exact ⟨by rw [hr.out], by go_grown⟩
  · have hr : Hid (partRes n v i value = .tuple #[.agg #[.int .i64 0, .int .i64 0], .int .i64 1]) := by unfold Hid partRes; rw [if_neg ht]
    have Ht : Hid (isTab n v = false) := by unfold Hid; simpa using ht
    clear ht
    have k0 : C2 ((w.alloc (.cells #[.int .i64 n, .int .i64 v] 25)).alloc (.cells #[.int .i64 0, .int .i64 0] 25)) (w.heap.size) (.int .i64 n) (.int .i64 v) := by simpa using (C2.here w (.int .i64 n) (.int .i64 v) 25).alloc (.cells #[.int .i64 0, .int .i64 0] 25)
    have k1 : C2 ((w.alloc (.cells #[.int .i64 n, .int .i64 v] 25)).alloc (.cells #[.int .i64 0, .int .i64 0] 25)) (w.heap.size + 1) (.int .i64 0) (.int .i64 0) := by simpa using C2.here (w.alloc (.cells #[.int .i64 n, .int .i64 v] 25)) (.int .i64 0) (.int .i64 0) 25
    go_enter Try.func37, Try.ntmps37
    go_wp2_with (first | (go_at_call 39; (with_reducible refine (l01Is_b _ _ _ Ht.out).mono ?_); rintro e w' ⟨rfl, hb⟩; have hL := chain (B := w.heap.size) (a := w) (by go_grown) (Nat.le_refl _) hb; (first | replace k0 := keepAt hb k0 | replace k0 := keepAt hb (C2.alloc k0 _)); (first | replace k1 := keepAt hb k1 | replace k1 := keepAt hb (C2.alloc k1 _)); clear hb))
    refine bodyPost_ret (v := .tuple #[.agg #[.int .i64 0, .int .i64 0], .int .i64 1]) (by simp [results, Try.results37, go_sem, *]) rfl ?_
    exact ⟨by rw [hr.out], by go_grown⟩

end Go.Proofs.Ytgcdpbikeimelaa
