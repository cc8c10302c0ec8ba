/- OppositeOf: the program's and the model's. -/
import Derived.Test.YtgcdpbikeimelaaAt
import Derived.Deep.RegionHeld3
import Derived.Deep.DeepCutAuto
namespace Go.Proofs.Ytgcdpbikeimelaa
open Go.RowKit
set_option linter.unusedVariables false

/-- what OppositeOf gives -/
def oppRes (n v : Int) : Value := if isTab n v = true then .tuple #[.agg #[.int .i64 n, .int .i64 (fullZ n - v)], .int .i64 0] else .tuple #[.agg #[.int .i64 0, .int .i64 0], .int .i64 1]
theorem oppRes_cases (n v : Int) : ∃ a b c : Int, oppRes n v = .tuple #[.agg #[.int .i64 a, .int .i64 b], .int .i64 c] := by
  unfold oppRes; split <;> exact ⟨_, _, _, rfl⟩

theorem xor_opp {n v : Int} (h1 : 1 ≤ n) (h5 : n ≤ 5) (h0 : 0 ≤ v) (hv : v ≤ fullZ n) : bits .xor .i64 v (fullZ n) = fullZ n - v := by
  obtain ⟨V, rfl⟩ := Int.eq_ofNat_of_zero_le h0
  have hf := (fullZ_bd h1 h5).2
  unfold fullZ at *
  have hp : 0 < 2 ^ (2 ^ n.toNat) := Nat.two_pow_pos _
  rw [i64_xor V _ (by omega) (by omega), xor_full (by omega)]
  omega

theorem opposite_any (n v : Int) (w : World) (h1 : 1 ≤ n) (h5 : n ≤ 5) (h0 : 0 ≤ v) (hv : v ≤ fullZ n) :
    Calls Try.prog 51 #[.agg #[.int .i64 n, .int .i64 v]] w fun e w' => e = .returned (.agg #[.int .i64 n, .int .i64 (fullZ n - v)]) ∧ Below w.heap.size w w' := by
  have hx := Lib.hid (xor_opp h1 h5 h0 hv)
  have hf := fullZ_bd h1 h5
  have Hv := Lib.hid hv
  clear hv
  have k0 : C2 ((w.alloc (.cells #[.int .i64 n, .int .i64 v] 25)).alloc (.cells #[.int .i64 0, .int .i64 0] 25)) (w.heap.size) (.int .i64 n) (.int .i64 v) := by simpa using (C2.here w (.int .i64 n) (.int .i64 v) 25).alloc (.cells #[.int .i64 0, .int .i64 0] 25)
  have k1 : C2 ((w.alloc (.cells #[.int .i64 n, .int .i64 v] 25)).alloc (.cells #[.int .i64 0, .int .i64 0] 25)) (w.heap.size + 1) (.int .i64 0) (.int .i64 0) := by simpa using C2.here (w.alloc (.cells #[.int .i64 n, .int .i64 v] 25)) (.int .i64 0) (.int .i64 0) 25
  go_enter Try.func51, Try.ntmps51
  go_wp2_with fail
  go_region_held3 (fun w' => C2 w' w.heap.size (.int .i64 n) (.int .i64 v)) (exact (C2.here _ _ _ _).alloc _) (((go_at_call 41; (with_reducible refine (allRows_any _ _ h1 h5).mono ?_); rintro e w' ⟨rfl, rfl⟩)))
  go_wp2_with fail
  rw [hx.out]
  refine bodyPost_ret (v := .agg #[.int .i64 n, .int .i64 (fullZ n - v)]) (by simp [results, Try.results51, go_sem, *]) rfl ?_
  exact ⟨rfl, by go_grown⟩

theorem l01Not_any (n v : Int) (w : World) (h1 : 1 ≤ n) (h5 : n ≤ 5) (h0 : 0 ≤ v) (hv : v ≤ fullZ n) :
    Calls Try.prog 50 #[.agg #[.int .i64 n, .int .i64 v]] w fun e w' => e = .returned (.agg #[.int .i64 n, .int .i64 (fullZ n - v)]) ∧ Below w.heap.size w w' := by
  have hf := fullZ_bd h1 h5
  have hx : Hid (IntKind.i64.wrap (fullZ n - v) = fullZ n - v) := IntWalk.i64_in _ (by omega)
  have Hv := Lib.hid hv
  clear hv
  have k0 : C2 ((w.alloc (.cells #[.int .i64 n, .int .i64 v] 25)).alloc (.cells #[.int .i64 0, .int .i64 0] 25)) (w.heap.size) (.int .i64 n) (.int .i64 v) := by simpa using (C2.here w (.int .i64 n) (.int .i64 v) 25).alloc (.cells #[.int .i64 0, .int .i64 0] 25)
  have k1 : C2 ((w.alloc (.cells #[.int .i64 n, .int .i64 v] 25)).alloc (.cells #[.int .i64 0, .int .i64 0] 25)) (w.heap.size + 1) (.int .i64 0) (.int .i64 0) := by simpa using C2.here (w.alloc (.cells #[.int .i64 n, .int .i64 v] 25)) (.int .i64 0) (.int .i64 0) 25
  go_enter Try.func50, Try.ntmps50
  go_wp2_with fail
  go_region_held3 (fun w' => C2 w' w.heap.size (.int .i64 n) (.int .i64 v)) (exact (C2.here _ _ _ _).alloc _) (((go_at_call 61; (with_reducible refine (l01Full_any _ _ h1 h5).mono ?_); rintro e w' ⟨rfl, rfl⟩)))
  go_wp2_with fail
  rw [hx.out]
  refine bodyPost_ret (v := .agg #[.int .i64 n, .int .i64 (fullZ n - v)]) (by simp [results, Try.results50, go_sem, *]) rfl ?_
  exact ⟨rfl, by go_grown⟩

theorem iOppositeOf_any (n v : Int) (w : World) :
    Calls Try.prog 28 #[.agg #[.int .i64 n, .int .i64 v]] w fun e w' => e = .returned (oppRes n v) ∧ Below w.heap.size w w' := by
  by_cases ht : isTab n v = true
  · have hr : Hid (oppRes n v = .tuple #[.agg #[.int .i64 n, .int .i64 (fullZ n - v)], .int .i64 0]) := by unfold Hid oppRes; rw [if_pos ht]
    obtain ⟨h1, h5, h0, hv⟩ := isTab_out ht
    have Hv := Lib.hid hv
    have Ht := Lib.hid ht
    clear ht hv
    have k0 : C2 ((w.alloc (.cells #[.int .i64 n, .int .i64 v] 25)).alloc (.cells #[.int .i64 0, .int .i64 0] 25)) (w.heap.size) (.int .i64 n) (.int .i64 v) := by simpa using (C2.here w (.int .i64 n) (.int .i64 v) 25).alloc (.cells #[.int .i64 0, .int .i64 0] 25)
    have k1 : C2 ((w.alloc (.cells #[.int .i64 n, .int .i64 v] 25)).alloc (.cells #[.int .i64 0, .int .i64 0] 25)) (w.heap.size + 1) (.int .i64 0) (.int .i64 0) := by simpa using C2.here (w.alloc (.cells #[.int .i64 n, .int .i64 v] 25)) (.int .i64 0) (.int .i64 0) 25
    go_enter Try.func28, Try.ntmps28
    go_wp2_with (first | (go_at_call 15; (with_reducible refine (isTable_b _ _ _ Ht.out).mono ?_); rintro e w' ⟨rfl, hb⟩; have hL := chain (B := w.heap.size) (a := w) (by go_grown) (Nat.le_refl _) hb; (first | replace k0 := keepAt hb k0 | replace k0 := keepAt hb (C2.alloc k0 _)); (first | replace k1 := keepAt hb k1 | replace k1 := keepAt hb (C2.alloc k1 _)); clear hb) | (go_at_call 51; (with_reducible refine (opposite_any _ _ _ h1 h5 h0 Hv.out).mono ?_); rintro e w' ⟨rfl, hb⟩; have hL := chain (B := w.heap.size) (a := w) (by go_grown) (Nat.le_refl _) hb; (first | replace k0 := keepAt hb k0 | replace k0 := keepAt hb (C2.alloc k0 _)); (first | replace k1 := keepAt hb k1 | replace k1 := keepAt hb (C2.alloc k1 _)); clear hb))
    refine bodyPost_ret (v := .tuple #[.agg #[.int .i64 n, .int .i64 (fullZ n - v)], .int .i64 0]) (by simp [results, Try.results28, go_sem, *]) rfl ?_
    exact ⟨by rw [hr.out], by go_grown⟩
  · have hr : Hid (oppRes n v = .tuple #[.agg #[.int .i64 0, .int .i64 0], .int .i64 1]) := by unfold Hid oppRes; rw [if_neg ht]
    have Ht : Hid (isTab n v = false) := by unfold Hid; simpa using ht
    clear ht
    have k0 : C2 ((w.alloc (.cells #[.int .i64 n, .int .i64 v] 25)).alloc (.cells #[.int .i64 0, .int .i64 0] 25)) (w.heap.size) (.int .i64 n) (.int .i64 v) := by simpa using (C2.here w (.int .i64 n) (.int .i64 v) 25).alloc (.cells #[.int .i64 0, .int .i64 0] 25)
    have k1 : C2 ((w.alloc (.cells #[.int .i64 n, .int .i64 v] 25)).alloc (.cells #[.int .i64 0, .int .i64 0] 25)) (w.heap.size + 1) (.int .i64 0) (.int .i64 0) := by simpa using C2.here (w.alloc (.cells #[.int .i64 n, .int .i64 v] 25)) (.int .i64 0) (.int .i64 0) 25
    go_enter Try.func28, Try.ntmps28
    go_wp2_with (first | (go_at_call 15; (with_reducible refine (isTable_b _ _ _ Ht.out).mono ?_); rintro e w' ⟨rfl, hb⟩; have hL := chain (B := w.heap.size) (a := w) (by go_grown) (Nat.le_refl _) hb; (first | replace k0 := keepAt hb k0 | replace k0 := keepAt hb (C2.alloc k0 _)); (first | replace k1 := keepAt hb k1 | replace k1 := keepAt hb (C2.alloc k1 _)); clear hb))
    refine bodyPost_ret (v := .tuple #[.agg #[.int .i64 0, .int .i64 0], .int .i64 1]) (by simp [results, Try.results28, go_sem, *]) rfl ?_
    exact ⟨by rw [hr.out], by go_grown⟩

theorem sOppositeOf_any (n v : Int) (w : World) :
    Calls Try.prog 27 #[.agg #[.int .i64 n, .int .i64 v]] w fun e w' => e = .returned (oppRes n v) ∧ Below w.heap.size w w' := by
  by_cases ht : isTab n v = true
  · have hr : Hid (oppRes n v = .tuple #[.agg #[.int .i64 n, .int .i64 (fullZ n - v)], .int .i64 0]) := by unfold Hid oppRes; rw [if_pos ht]
    obtain ⟨h1, h5, h0, hv⟩ := isTab_out ht
    have Hv := Lib.hid hv
    have Ht := Lib.hid ht
    clear ht hv
    have k0 : C2 ((w.alloc (.cells #[.int .i64 n, .int .i64 v] 25)).alloc (.cells #[.int .i64 0, .int .i64 0] 25)) (w.heap.size) (.int .i64 n) (.int .i64 v) := by simpa using (C2.here w (.int .i64 n) (.int .i64 v) 25).alloc (.cells #[.int .i64 0, .int .i64 0] 25)
    have k1 : C2 ((w.alloc (.cells #[.int .i64 n, .int .i64 v] 25)).alloc (.cells #[.int .i64 0, .int .i64 0] 25)) (w.heap.size + 1) (.int .i64 0) (.int .i64 0) := by simpa using C2.here (w.alloc (.cells #[.int .i64 n, .int .i64 v] 25)) (.int .i64 0) (.int .i64 0) 25
    go_enter Try.func27, Try.ntmps27
    go_wp2_with (first | (go_at_call 39; (with_reducible refine (l01Is_b _ _ _ Ht.out).mono ?_); rintro e w' ⟨rfl, hb⟩; have hL := chain (B := w.heap.size) (a := w) (by go_grown) (Nat.le_refl _) hb; (first | replace k0 := keepAt hb k0 | replace k0 := keepAt hb (C2.alloc k0 _)); (first | replace k1 := keepAt hb k1 | replace k1 := keepAt hb (C2.alloc k1 _)); clear hb) | (go_at_call 50; (with_reducible refine (l01Not_any _ _ _ h1 h5 h0 Hv.out).mono ?_); rintro e w' ⟨rfl, hb⟩; have hL := chain (B := w.heap.size) (a := w) (by go_grown) (Nat.le_refl _) hb; (first | replace k0 := keepAt hb k0 | replace k0 := keepAt hb (C2.alloc k0 _)); (first | replace k1 := keepAt hb k1 | replace k1 := keepAt hb (C2.alloc k1 _)); clear hb))
    refine bodyPost_ret (v := .tuple #[.agg #[.int .i64 n, .int .i64 (fullZ n - v)], .int .i64 0]) (by simp [results, Try.results27, go_sem, *]) rfl ?_
    exact ⟨by rw [hr.out], by go_grown⟩
  · have hr : Hid (oppRes n v = .tuple #[.agg #[.int .i64 0, .int .i64 0], .int .i64 1]) := by unfold Hid oppRes; rw [if_neg ht]
    have Ht : Hid (isTab n v = false) := by unfold Hid; simpa using ht
    clear ht
    have k0 : C2 ((w.alloc (.cells #[.int .i64 n, .int .i64 v] 25)).alloc (.cells #[.int .i64 0, .int .i64 0] 25)) (w.heap.size) (.int .i64 n) (.int .i64 v) := by simpa using (C2.here w (.int .i64 n) (.int .i64 v) 25).alloc (.cells #[.int .i64 0, .int .i64 0] 25)
    have k1 : C2 ((w.alloc (.cells #[.int .i64 n, .int .i64 v] 25)).alloc (.cells #[.int .i64 0, .int .i64 0] 25)) (w.heap.size + 1) (.int .i64 0) (.int .i64 0) := by simpa using C2.here (w.alloc (.cells #[.int .i64 n, .int .i64 v] 25)) (.int .i64 0) (.int .i64 0) 25
    go_enter Try.func27, Try.ntmps27
    go_wp2_with (first | (go_at_call 39; (with_reducible refine (l01Is_b _ _ _ Ht.out).mono ?_); rintro e w' ⟨rfl, hb⟩; have hL := chain (B := w.heap.size) (a := w) (by go_grown) (Nat.le_refl _) hb; (first | replace k0 := keepAt hb k0 | replace k0 := keepAt hb (C2.alloc k0 _)); (first | replace k1 := keepAt hb k1 | replace k1 := keepAt hb (C2.alloc k1 _)); clear hb))
    refine bodyPost_ret (v := .tuple #[.agg #[.int .i64 0, .int .i64 0], .int .i64 1]) (by simp [results, Try.results27, go_sem, *]) rfl ?_
    exact ⟨by rw [hr.out], by go_grown⟩

end Go.Proofs.Ytgcdpbikeimelaa
