/- SymmetricTable: the program's. -/
import Derived.Test.YtlcfecccpbeofabDoorSymM
namespace Go.Proofs.YtlcfecccpbeofabDoor
open Go.RowKit
set_option linter.unusedVariables false

def pop1 (x : Int) : Int := IntKind.u64.wrap (bits .and .u64 (x / 2) 6148914691236517205 + bits .and .u64 x 6148914691236517205)
def pop2 (x : Int) : Int := IntKind.u64.wrap (bits .and .u64 (x / 4) 3689348814741910323 + bits .and .u64 x 3689348814741910323)
def pop3 (x : Int) : Int := bits .and .u64 (IntKind.u64.wrap (x / 16 + x)) 1085102592571150095
def pop4 (x : Int) : Int := IntKind.u64.wrap (x + x / 256)
def pop5 (x : Int) : Int := IntKind.u64.wrap (x + x / 65536)
def pop6 (x : Int) : Int := IntKind.u64.wrap (x + x / 4294967296)
def pop (x : Int) : Int := bits .and .i64 (wrap64 (pop6 (pop5 (pop4 (pop3 (pop2 (pop1 x))))))) 127
theorem pop_fin : ∀ j : Fin 32, pop (j.val : Int) = (onesN j.val : Int) := by decide +kernel

set_option maxHeartbeats 1000000 in
theorem ones64_any (k : Nat) (w : World) (hk : k < 32) :
    Calls Tryd.prog 20 #[.int .u64 (k : Int)] w fun e w' => e = .returned (.int .i64 (onesN k : Int)) ∧ w = w' := by
  have hp : Hid (pop (k : Int) = (onesN k : Int)) := pop_fin ⟨k, hk⟩
  go_enter Tryd.func20, Tryd.ntmps20
  go_wp2
  go_ret
  refine ⟨?_, rfl⟩
  rw [← hp.out]
  rfl

theorem symF (S : Nat) (k : Nat) : digZ (S : Int) (onesN k : Int) = (dig S (onesN k) : Int) := by
  unfold digZ; rw [Int.toNat_natCast, Int.toNat_natCast]

set_option maxRecDepth 100000 in
set_option maxHeartbeats 2000000 in
theorem symmetricTable_any (n : Int) (S : Nat) (w : World) (n1 : 1 ≤ n) (n5 : n ≤ 5) (hS : S < 64) :
    Calls Tryd.prog 15 #[.int .i64 n, .int .i64 (S : Int)] w fun e w' => e = .returned (.agg #[.int .i64 n, .int .i64 (symVals n S)]) ∧ Below w.heap.size w w' := by
  have Hr : Hid (rcZ n = ((2 ^ n.toNat : Nat) : Int)) := rfl
  have hr := rcZ_bd n1 n5
  have HV : Hid (symVals n S = buildZ (fun r => dig S (onesN r)) (2 ^ n.toNat)) := rfl
  have k0 : C2 ((w.alloc (.cells #[.int .i64 0, .int .i64 0] 26)).alloc (.cells #[.int .i64 n, .int .i64 0] 26)) (w.heap.size) (.int .i64 0) (.int .i64 0) := by simpa using (C2.here w (.int .i64 0) (.int .i64 0) 26).alloc (.cells #[.int .i64 n, .int .i64 0] 26)
  have k1 : C2 ((w.alloc (.cells #[.int .i64 0, .int .i64 0] 26)).alloc (.cells #[.int .i64 n, .int .i64 0] 26)) (w.heap.size + 1) (.int .i64 n) (.int .i64 0) := by simpa using C2.here (w.alloc (.cells #[.int .i64 0, .int .i64 0] 26)) (.int .i64 n) (.int .i64 0) 26
  go_enter Tryd.func15, Tryd.ntmps15
  go_wp2_with ((go_at_call 19; (with_reducible refine (rowCount_any _ _ n1 n5).mono ?_); rintro e w' ⟨rfl, rfl⟩))
  go_loopw [12] (fun c wr => ∃ k : Nat, (k : Int) ≤ rcZ n ∧ c = .int .i64 (k : Int) ∧ Below w.heap.size w wr ∧ C2 wr w.heap.size (.int .i64 0) (.int .i64 0) ∧ C2 wr (w.heap.size + 1) (.int .i64 n) (.int .i64 (buildZ (fun r => dig S (onesN r)) k)))
    (fun c _ => (rcZ n - intOf c).toNat)
  case atStart => exact ⟨0, by omega, rfl, by go_grown, k0, k1⟩
  case round =>
    clear k0 k1
    obtain ⟨k, hk, rfl, hL, k0, k1⟩ := hrel
    by_cases hlt : (k : Int) < rcZ n
    · have hk32 : k < 32 := by omega
      have HO := Lib.hid (onesN_le k)
      have HD := Lib.hid (symF S k)
      have Hs := Lib.hid (build_stepG (fun r => dig S (onesN r)) k hk32 (dig_lt _ _))
      have hu : IntKind.u64.wrap (k : Int) = (k : Int) := IntWalk.u64_in _ (by omega)
      have HS : Hid ((0 : Int) ≤ S ∧ (S : Int) < 9223372036854775808) := by unfold Hid; omega
      have HO2 : Hid ((0 : Int) ≤ onesN k ∧ (onesN k : Int) ≤ 62) := by unfold Hid; have := HO.out; omega
      go_wp2_with ((go_at_call 20; (with_reducible refine (ones64_any k _ hk32).mono ?_); rintro e w' ⟨rfl, rfl⟩))
      generalize onesN k = z at *
      go_region_with (first | (go_at_call 21; (with_reducible refine (digitAt_any _ _ _ HS.out.1 HS.out.2 HO2.out.1 HO2.out.2).mono ?_); rintro e w' ⟨rfl, rfl⟩))
      all_goals (go_wp2_with fail)
      all_goals (rw [HD.out, Hs.out]; exact ⟨⟨k + 1, by omega, by go_num, by go_grown, k0.set _ _ _ (by omega), k1.put1 _⟩, by simp [intOf]; omega⟩)
    · have Hk : Hid ((k : Nat) = 2 ^ n.toNat) := by have := Hr.out; unfold Hid; omega
      rw [Hk.out, ← HV.out] at k1
      go_wp2_with ((go_at_call 19; (with_reducible refine (rowCount_any _ _ n1 n5).mono ?_); rintro e w' ⟨rfl, rfl⟩))
      refine bodyPost_ret (v := .agg #[.int .i64 n, .int .i64 (symVals n S)]) (by simp [results, Tryd.results15, go_sem, *]) rfl ?_
      exact ⟨rfl, by go_grown⟩

end Go.Proofs.YtlcfecccpbeofabDoor
