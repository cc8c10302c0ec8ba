/- The model's wider table. -/
import Derived.Test.YtgcdpbikeimelabWid0
namespace Go.Proofs.Ytgcdpbikeimelab
open Go.RowKit
set_option linter.unusedVariables false

set_option maxRecDepth 100000 in
set_option maxHeartbeats 6000000 in
theorem l01Widen_any (n v m : Int) (w : World) (n1 : 1 ≤ n) (n5 : n ≤ 5) (h0 : 0 ≤ v) (hv : v < 9223372036854775808) (m1 : n ≤ m) (m5 : m ≤ 5) :
    Calls Try.prog 58 #[.agg #[.int .i64 n, .int .i64 v], .int .i64 m] w fun e w' => e = .returned (.agg #[.int .i64 m, .int .i64 (widVals n v m)]) ∧ Below w.heap.size w w' := by
  have Hr : Hid (rcZ m = ((2 ^ m.toNat : Nat) : Int)) := rfl
  have m1' : 1 ≤ m := by omega
  have hr := rcZ_bd m1' m5
  have hrn := rcZ_bd n1 n5
  have k0 : C2 (((w.alloc (.cells #[.int .i64 n, .int .i64 v] 27)).alloc (.cells #[.int .i64 0, .int .i64 0] 27)).alloc (.cells #[.int .i64 m, .int .i64 0] 27)) (w.heap.size) (.int .i64 n) (.int .i64 v) := by simpa using ((C2.here w (.int .i64 n) (.int .i64 v) 27).alloc (.cells #[.int .i64 0, .int .i64 0] 27)).alloc (.cells #[.int .i64 m, .int .i64 0] 27)
  have k1 : C2 (((w.alloc (.cells #[.int .i64 n, .int .i64 v] 27)).alloc (.cells #[.int .i64 0, .int .i64 0] 27)).alloc (.cells #[.int .i64 m, .int .i64 0] 27)) (w.heap.size + 1) (.int .i64 0) (.int .i64 0) := by simpa using (C2.here (w.alloc (.cells #[.int .i64 n, .int .i64 v] 27)) (.int .i64 0) (.int .i64 0) 27).alloc (.cells #[.int .i64 m, .int .i64 0] 27)
  have k2 : C2 (((w.alloc (.cells #[.int .i64 n, .int .i64 v] 27)).alloc (.cells #[.int .i64 0, .int .i64 0] 27)).alloc (.cells #[.int .i64 m, .int .i64 0] 27)) (w.heap.size + 1 + 1) (.int .i64 m) (.int .i64 0) := by simpa using C2.here ((w.alloc (.cells #[.int .i64 n, .int .i64 v] 27)).alloc (.cells #[.int .i64 0, .int .i64 0] 27)) (.int .i64 m) (.int .i64 0) 27
  go_enter Try.func58, Try.ntmps58
  go_wp2_with fail
  go_loopw [6] (fun c wr => ∃ k : Nat, (k : Int) ≤ rcZ m ∧ c = .int .i64 (k : Int) ∧ Below w.heap.size w wr ∧ C2 wr w.heap.size (.int .i64 n) (.int .i64 v) ∧ C2 wr (w.heap.size + 1) (.int .i64 0) (.int .i64 0) ∧ C2 wr (w.heap.size + 1 + 1) (.int .i64 m) (.int .i64 (buildZ (fun j => dig v.toNat (lowRow n j).toNat) k)))
    (fun c _ => (rcZ m - intOf c).toNat)
  case atStart => exact ⟨0, by omega, rfl, by go_grown, k0, k1, k2⟩
  case round =>
    clear k0 k1 k2
    obtain ⟨k, hk, rfl, hL, k0, k1, k2⟩ := hrel
    by_cases hlt : (k : Int) < rcZ m
    · obtain ⟨e1, b0, b1, e2⟩ := lowRow_bd (n := n) (k := k) n1 n5 (by omega)
      have Hs := Lib.hid (build_stepZ v (fun j => (lowRow n j).toNat) k (lowRow n k) (by omega) b0 rfl)
      rw [← e2] at Hs b0 b1
      have Hb := Lib.hid b0
      have Hb2 : Hid ((k : Int) % rcZ n ≤ 62) := by unfold Hid; omega
      have hne : ¬ rcZ n = 0 := by omega
      clear e1 e2 b0 b1
      have hu2 := u64_in (x := (k : Int)) (by omega) (by omega)
      have hm2 : min k 64 = k := by omega
      have et : (k : Int).tmod (rcZ n) = (k : Int) % rcZ n := Int.tmod_eq_emod_of_nonneg (by omega)
      go_wp2_with ((go_at_call 51; (with_reducible refine (l01Rows_any _ _ m1' m5).mono ?_); rintro e w' ⟨rfl, rfl⟩))
      go_region_with (first | (go_at_call 51; (with_reducible refine (l01Rows_any _ _ n1 n5).mono ?_); rintro e w' ⟨rfl, rfl⟩) | (go_at_call 52; (with_reducible refine (l01At_any _ _ _ _ h0 hv Hb.out Hb2.out).mono ?_); rintro e w' ⟨rfl, hb⟩; have hL := chain (B := w.heap.size) (a := w) (by go_grown) (Nat.le_refl _) hb; (first | replace k0 := keepAt hb k0 | replace k0 := keepAt hb (C2.alloc k0 _)); (first | replace k1 := keepAt hb k1 | replace k1 := keepAt hb (C2.alloc k1 _)); (first | replace k2 := keepAt hb k2 | replace k2 := keepAt hb (C2.alloc k2 _)); clear hb))
      all_goals (go_wp2_with fail)
      all_goals (try rw [wrapW])
      all_goals (rw [Hs.out]; exact ⟨⟨k + 1, by omega, by go_num, by go_grown, k0.set _ _ _ (by omega), k1.set _ _ _ (by omega), k2.put1 _⟩, by simp [intOf]; omega⟩)
    · have Hk : Hid ((k : Nat) = 2 ^ m.toNat) := by have := Hr.out; unfold Hid; omega
      rw [Hk.out] at k2
      go_wp2_with ((go_at_call 51; (with_reducible refine (l01Rows_any _ _ m1' m5).mono ?_); rintro e w' ⟨rfl, rfl⟩))
      refine bodyPost_ret (v := .agg #[.int .i64 m, .int .i64 (buildZ (fun j => dig v.toNat (lowRow n (j : Int)).toNat) (2 ^ m.toNat))]) (by simp [results, Try.results58, go_sem, *]) rfl ?_
      exact ⟨rfl, by go_grown⟩

end Go.Proofs.Ytgcdpbikeimelab
