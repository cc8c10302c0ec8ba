/- The model's dual table. -/
import Derived.Test.YtgcdpbikeimelaaDual0
namespace Go.Proofs.Ytgcdpbikeimelaa
open Go.RowKit
set_option linter.unusedVariables false

theorem dual_step (n v : Int) (k : Nat) (hk : k < 32) :
    bits .or .i64 (buildZ (fun j => 1 - dig v.toNat (dualRow n j).toNat) k) (wrap64 ((1 - digZ v (rcZ n - 1 - k)) * 2 ^ k)) = buildZ (fun j => 1 - dig v.toNat (dualRow n j).toNat) (k + 1) := by
  have hb := build_lt (fun j => 1 - dig v.toNat (dualRow n j).toNat) k
  have hp : 2 ^ k < 2 ^ 32 := Nat.pow_lt_pow_right (by decide) hk
  have hd := dig_lt v.toNat (dualRow n k).toNat
  have e : (1 - digZ v (rcZ n - 1 - k)) * 2 ^ k = (((1 - dig v.toNat (dualRow n k).toNat) * 2 ^ k : Nat) : Int) := by
    unfold digZ
    rw [show rcZ n - 1 - (k : Int) = dualRow n k from rfl]
    have : ((1 - dig v.toNat (dualRow n k).toNat : Nat) : Int) = 1 - ((dig v.toNat (dualRow n k).toNat : Nat) : Int) := by omega
    rw [Int.natCast_mul, this]; simp
  have hm : (1 - dig v.toNat (dualRow n k).toNat) * 2 ^ k < 2 ^ 33 := by
    have : (1 - dig v.toNat (dualRow n k).toNat) * 2 ^ k ≤ 1 * 2 ^ k := Nat.mul_le_mul_right _ (by omega)
    omega
  rw [e, IntWalk.wrap64_in _ (by omega)]
  unfold buildZ
  rw [i64_or _ _ (by omega) (by omega)]
  have h := build_or (fun j => 1 - dig v.toNat (dualRow n j).toNat) k
  have hm2 : (1 - dig v.toNat (dualRow n k).toNat) % 2 = 1 - dig v.toNat (dualRow n k).toNat := by omega
  simp only [hm2] at h
  rw [h]

set_option maxRecDepth 100000 in
set_option maxHeartbeats 6000000 in
theorem l01Dual_any (n v : Int) (w : World) (n1 : 1 ≤ n) (n5 : n ≤ 5) (h0 : 0 ≤ v) (hv : v < 9223372036854775808) :
    Calls Try.prog 52 #[.agg #[.int .i64 n, .int .i64 v]] w fun e w' => e = .returned (.agg #[.int .i64 n, .int .i64 (dualVals n v)]) ∧ Below w.heap.size w w' := by
  have Hr : Hid (rcZ n = ((2 ^ n.toNat : Nat) : Int)) := rfl
  have hr := rcZ_bd n1 n5
  have k0 : C2 (((w.alloc (.cells #[.int .i64 n, .int .i64 v] 25)).alloc (.cells #[.int .i64 0, .int .i64 0] 25)).alloc (.cells #[.int .i64 n, .int .i64 0] 25)) (w.heap.size) (.int .i64 n) (.int .i64 v) := by simpa using ((C2.here w (.int .i64 n) (.int .i64 v) 25).alloc (.cells #[.int .i64 0, .int .i64 0] 25)).alloc (.cells #[.int .i64 n, .int .i64 0] 25)
  have k1 : C2 (((w.alloc (.cells #[.int .i64 n, .int .i64 v] 25)).alloc (.cells #[.int .i64 0, .int .i64 0] 25)).alloc (.cells #[.int .i64 n, .int .i64 0] 25)) (w.heap.size + 1) (.int .i64 0) (.int .i64 0) := by simpa using (C2.here (w.alloc (.cells #[.int .i64 n, .int .i64 v] 25)) (.int .i64 0) (.int .i64 0) 25).alloc (.cells #[.int .i64 n, .int .i64 0] 25)
  have k2 : C2 (((w.alloc (.cells #[.int .i64 n, .int .i64 v] 25)).alloc (.cells #[.int .i64 0, .int .i64 0] 25)).alloc (.cells #[.int .i64 n, .int .i64 0] 25)) (w.heap.size + 1 + 1) (.int .i64 n) (.int .i64 0) := by simpa using C2.here ((w.alloc (.cells #[.int .i64 n, .int .i64 v] 25)).alloc (.cells #[.int .i64 0, .int .i64 0] 25)) (.int .i64 n) (.int .i64 0) 25
  go_enter Try.func52, Try.ntmps52
  go_wp2_with fail
  go_loopw [4] (fun c wr => ∃ k : Nat, (k : Int) ≤ rcZ n ∧ c = .int .i64 (k : Int) ∧ Below w.heap.size w wr ∧ C2 wr w.heap.size (.int .i64 n) (.int .i64 v) ∧ C2 wr (w.heap.size + 1) (.int .i64 0) (.int .i64 0) ∧ C2 wr (w.heap.size + 1 + 1) (.int .i64 n) (.int .i64 (buildZ (fun j => 1 - dig v.toNat (dualRow n j).toNat) k)))
    (fun c _ => (rcZ n - intOf c).toNat)
  case atStart => exact ⟨0, by omega, rfl, by go_grown, k0, k1, k2⟩
  case round =>
    clear k0 k1 k2
    obtain ⟨k, hk, rfl, hL, k0, k1, k2⟩ := hrel
    by_cases hlt : (k : Int) < rcZ n
    · have Hs := Lib.hid (dual_step n v k (by omega))
      have hd := digZ_bd v (rcZ n - 1 - k)
      have hu2 := u64_in (x := (k : Int)) (by omega) (by omega)
      have hm2 : min k 64 = k := by omega
      have hw1 : IntKind.i64.wrap (rcZ n - 1) = rcZ n - 1 := IntWalk.i64_in _ (by omega)
      have hw2 : IntKind.i64.wrap (rcZ n - 1 - (k : Int)) = rcZ n - 1 - (k : Int) := IntWalk.i64_in _ (by omega)
      have hw3 : IntKind.i64.wrap (1 - digZ v (rcZ n - 1 - (k : Int))) = 1 - digZ v (rcZ n - 1 - (k : Int)) := IntWalk.i64_in _ (by omega)
      clear hd
      go_wp2_with ((go_at_call 43; (with_reducible refine (l01Rows_any _ _ n1 n5).mono ?_); rintro e w' ⟨rfl, rfl⟩))
      go_region_with (first | (go_at_call 43; (with_reducible refine (l01Rows_any _ _ n1 n5).mono ?_); rintro e w' ⟨rfl, rfl⟩) | (go_at_call 44; (with_reducible refine (l01At_any _ _ _ _ h0 hv (by omega) (by omega)).mono ?_); rintro e w' ⟨rfl, hb⟩; have hL := chain (B := w.heap.size) (a := w) (by go_grown) (Nat.le_refl _) hb; (first | replace k0 := keepAt hb k0 | replace k0 := keepAt hb (C2.alloc k0 _)); (first | replace k1 := keepAt hb k1 | replace k1 := keepAt hb (C2.alloc k1 _)); (first | replace k2 := keepAt hb k2 | replace k2 := keepAt hb (C2.alloc k2 _)); clear hb))
      all_goals (go_wp2_with fail)
      all_goals (try rw [wrapW])
      all_goals (rw [Hs.out]; exact ⟨⟨k + 1, by omega, by go_num, by go_grown, k0.set _ _ _ (by omega), k1.set _ _ _ (by omega), k2.put1 _⟩, by simp [intOf]; omega⟩)
    · have Hk : Hid ((k : Nat) = 2 ^ n.toNat) := by have := Hr.out; unfold Hid; omega
      rw [Hk.out] at k2
      go_wp2_with ((go_at_call 43; (with_reducible refine (l01Rows_any _ _ n1 n5).mono ?_); rintro e w' ⟨rfl, rfl⟩))
      refine bodyPost_ret (v := .agg #[.int .i64 n, .int .i64 (buildZ (fun j => 1 - dig v.toNat (dualRow n (j : Int)).toNat) (2 ^ n.toNat))]) (by simp [results, Try.results52, go_sem, *]) rfl ?_
      exact ⟨rfl, by go_grown⟩

end Go.Proofs.Ytgcdpbikeimelaa
