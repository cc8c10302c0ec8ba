/- The part of a table for an input and a value: the model's. -/
import Derived.Test.YtbliibcfnfgdmaaPart
namespace Go.Proofs.Ytbliibcfnfgdmaa
open Go.RowKit
set_option linter.unusedVariables false

theorem wrapW (x : Int) : IntKind.i64.wrap x = wrap64 x := IntWalk.i64_left x
theorem u64_in {x : Int} (h0 : 0 ≤ x) (h1 : x ≤ 63) : IntKind.u64.wrap x = x := IntWalk.u64_in _ (by omega)

/-- one row more, the row as a number of Go -/
theorem build_stepZ (v : Int) (f : Nat → Nat) (k : Nat) (r : Int) (hk : k < 32) (hr : 0 ≤ r) (e : f k = r.toNat) :
    bits .or .i64 (buildZ (fun j => dig v.toNat (f j)) k) (wrap64 (digZ v r * 2 ^ k)) = buildZ (fun j => dig v.toNat (f j)) (k + 1) := by
  have h := build_step v f k hk
  rw [e, Int.toNat_of_nonneg hr] at h
  exact h

set_option maxRecDepth 100000 in
set_option maxHeartbeats 2000000 in
theorem l01Part_any (n v i value : Int) (w : World) (n1 : 1 ≤ n) (n5 : n ≤ 5) (h0 : 0 ≤ v) (hv : v < 9223372036854775808) (i0 : 0 ≤ i) (in_ : i < n) (v0 : 0 ≤ value) (v1 : value ≤ 1) :
    Calls Try.prog 99 #[.agg #[.int .i64 n, .int .i64 v], .int .i64 i, .int .i64 value] w fun e w' => e = .returned (.agg #[.int .i64 n, .int .i64 (partVals n v i value)]) ∧ Below w.heap.size w w' := by
  have Hr : Hid (rcZ n = ((2 ^ n.toNat : Nat) : Int)) := rfl
  have hr := rcZ_bd n1 n5
  have k0 : C2 (((w.alloc (.cells #[.int .i64 n, .int .i64 v] 53)).alloc (.cells #[.int .i64 0, .int .i64 0] 53)).alloc (.cells #[.int .i64 n, .int .i64 0] 53)) (w.heap.size) (.int .i64 n) (.int .i64 v) := by simpa using ((C2.here w (.int .i64 n) (.int .i64 v) 53).alloc (.cells #[.int .i64 0, .int .i64 0] 53)).alloc (.cells #[.int .i64 n, .int .i64 0] 53)
  have k1 : C2 (((w.alloc (.cells #[.int .i64 n, .int .i64 v] 53)).alloc (.cells #[.int .i64 0, .int .i64 0] 53)).alloc (.cells #[.int .i64 n, .int .i64 0] 53)) (w.heap.size + 1) (.int .i64 0) (.int .i64 0) := by simpa using (C2.here (w.alloc (.cells #[.int .i64 n, .int .i64 v] 53)) (.int .i64 0) (.int .i64 0) 53).alloc (.cells #[.int .i64 n, .int .i64 0] 53)
  have k2 : C2 (((w.alloc (.cells #[.int .i64 n, .int .i64 v] 53)).alloc (.cells #[.int .i64 0, .int .i64 0] 53)).alloc (.cells #[.int .i64 n, .int .i64 0] 53)) (w.heap.size + 1 + 1) (.int .i64 n) (.int .i64 0) := by simpa using C2.here ((w.alloc (.cells #[.int .i64 n, .int .i64 v] 53)).alloc (.cells #[.int .i64 0, .int .i64 0] 53)) (.int .i64 n) (.int .i64 0) 53
  go_enter Try.func99, Try.ntmps99
  go_wp2_with fail
  go_loopw [9] (fun c wr => ∃ k : Nat, (k : Int) ≤ rcZ n ∧ c = .int .i64 (k : Int) ∧ Below w.heap.size w wr ∧ C2 wr w.heap.size (.int .i64 n) (.int .i64 v) ∧ C2 wr (w.heap.size + 1) (.int .i64 0) (.int .i64 0) ∧ C2 wr (w.heap.size + 1 + 1) (.int .i64 n) (.int .i64 (buildZ (fun j => dig v.toNat (partRow i value j).toNat) k)))
    (fun c _ => (rcZ n - intOf c).toNat)
  case atStart => exact ⟨0, by omega, rfl, by go_grown, k0, k1, k2⟩
  case round =>
    clear k0 k1 k2
    obtain ⟨k, hk, rfl, hL, k0, k1, k2⟩ := hrel
    by_cases hlt : (k : Int) < rcZ n
    · have Hk : Hid (k < 2 ^ n.toNat) := by have := Hr.out; unfold Hid; omega
      have hbd : 0 ≤ bits .or .i64 (bits .andNot .i64 (k : Int) (wrap64 (2 ^ i.toNat))) (wrap64 (value * 2 ^ i.toNat)) ∧ bits .or .i64 (bits .andNot .i64 (k : Int) (wrap64 (2 ^ i.toNat))) (wrap64 (value * 2 ^ i.toNat)) < ((2 ^ n.toNat : Nat) : Int) := partRow_bd n5 i0 in_ v0 v1 Hk.out
      have hbd2 : bits .or .i64 (bits .andNot .i64 (k : Int) (wrap64 (2 ^ i.toNat))) (wrap64 (value * 2 ^ i.toNat)) ≤ 62 := by have := Hr.out; omega
      have Hs := Lib.hid (build_stepZ v (fun j => (partRow i value j).toNat) k _ (by omega) hbd.1 rfl)
      have Hb := Lib.hid hbd.1
      have Hb2 := Lib.hid hbd2
      clear hbd hbd2
      have hu1 := u64_in (x := i) i0 (by omega)
      have hu2 := u64_in (x := (k : Int)) (by omega) (by omega)
      have hm1 : min i.toNat 64 = i.toNat := by omega
      have hm2 : min k 64 = k := by omega
      have hw1 := wrapW (value * 2 ^ i.toNat)
      go_wp2_with ((go_at_call 57; (with_reducible refine (l01Rows_any _ _ n1 n5).mono ?_); rintro e w' ⟨rfl, rfl⟩))
      go_region_with (first | (go_at_call 76; (with_reducible refine (l01At_any _ _ _ _ h0 hv Hb.out Hb2.out).mono ?_); rintro e w' ⟨rfl, hb⟩; have hL := chain (B := w.heap.size) (a := w) (by go_grown) (Nat.le_refl _) hb; (first | replace k0 := keepAt hb k0 | replace k0 := keepAt hb (C2.alloc k0 _)); (first | replace k1 := keepAt hb k1 | replace k1 := keepAt hb (C2.alloc k1 _)); (first | replace k2 := keepAt hb k2 | replace k2 := keepAt hb (C2.alloc k2 _)); clear hb))
      all_goals (go_wp2_with fail)
      all_goals (try rw [wrapW])
      all_goals (rw [Hs.out]; exact ⟨⟨k + 1, by omega, by go_num, by go_grown, k0.set _ _ _ (by omega), k1.set _ _ _ (by omega), k2.put1 _⟩, by simp [intOf]; omega⟩)
    · have Hk : Hid ((k : Nat) = 2 ^ n.toNat) := by have := Hr.out; unfold Hid; omega
      rw [Hk.out] at k2
      go_wp2_with ((go_at_call 57; (with_reducible refine (l01Rows_any _ _ n1 n5).mono ?_); rintro e w' ⟨rfl, rfl⟩))
      refine bodyPost_ret (v := .agg #[.int .i64 n, .int .i64 (buildZ (fun j => dig v.toNat (partRow i value (j : Int)).toNat) (2 ^ n.toNat))]) (by simp [results, Try.results99, go_sem, *]) rfl ?_
      exact ⟨rfl, by go_grown⟩

end Go.Proofs.Ytbliibcfnfgdmaa
