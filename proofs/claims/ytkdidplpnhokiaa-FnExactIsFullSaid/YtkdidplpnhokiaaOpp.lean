/- OppositeOf: the program's and the model's. -/
import Derived.Test.YtkdidplpnhokiaaAt
import Derived.Deep.RegionHeld3
import Derived.Deep.DeepCutAuto
namespace Go.Proofs.Ytkdidplpnhokiaa
open Go.RowKit
set_option linter.unusedVariables false

/-- what OppositeOf gives -/
def oppRes (n v : Int) : Value := if isTab n v = true then .tuple #[.agg #[.int .i64 n, .int .i64 (fullZ n - v)], .int .i64 0] else .tuple #[.agg #[.int .i64 0, .int .i64 0], .int .i64 1]
theorem oppRes_cases (n v : Int) : ∃ a b c : Int, oppRes n v = .tuple #[.agg #[.int .i64 a, .int .i64 b], .int .i64 c] := by
  unfold oppRes; split <;> exact ⟨_, _, _, rfl⟩

theorem xor_opp {n v : Int} (h1 : 1 ≤ n) (h5 : n ≤ 5) (h0 : 0 ≤ v) (hv : v ≤ fullZ n) : bits .xor .i64 v (fullZ n) = fullZ n - v := by
  obtain ⟨V, rfl⟩ := Int.eq_ofNat_of_zero_le h0
  have hf := (fullZ_bd h1 h5).2
  unfold fullZ at *
  have hp : 0 < 2 ^ (2 ^ n.toNat) := Nat.two_pow_pos _
  rw [i64_xor V _ (by omega) (by omega), xor_full (by omega)]
  omega

theorem opposite_any (n v : Int) (w : World) (h1 : 1 ≤ n) (h5 : n ≤ 5) (h0 : 0 ≤ v) (hv : v ≤ fullZ n) :
    Calls Try.prog 86 #[.agg #[.int .i64 n, .int .i64 v]] w fun e w' => e = .returned (.agg #[.int .i64 n, .int .i64 (fullZ n - v)]) ∧ Below w.heap.size w w' := by
  have hx := Lib.hid (xor_opp h1 h5 h0 hv)
  have hf := fullZ_bd h1 h5
  have Hv := Lib.hid hv
  clear hv
  have k0 : C2 ((w.alloc (.cells #[.int .i64 n, .int .i64 v] 44)).alloc (.cells #[.int .i64 0, .int .i64 0] 44)) (w.heap.size) (.int .i64 n) (.int .i64 v) := by simpa using (C2.here w (.int .i64 n) (.int .i64 v) 44).alloc (.cells #[.int .i64 0, .int .i64 0] 44)
  have k1 : C2 ((w.alloc (.cells #[.int .i64 n, .int .i64 v] 44)).alloc (.cells #[.int .i64 0, .int .i64 0] 44)) (w.heap.size + 1) (.int .i64 0) (.int .i64 0) := by simpa using C2.here (w.alloc (.cells #[.int .i64 n, .int .i64 v] 44)) (.int .i64 0) (.int .i64 0) 44
  go_enter Try.func86, Try.ntmps86
  go_wp2_with fail
  go_region_held3 (fun w' => C2 w' w.heap.size (.int .i64 n) (.int .i64 v)) (exact (C2.here _ _ _ _).alloc _) (((go_at_call 124; (with_reducible refine (allRows_any _ _ h1 h5).mono ?_); rintro e w' ⟨rfl, rfl⟩)))
  go_wp2_with fail
  rw [hx.out]
  refine bodyPost_ret (v := .agg #[.int .i64 n, .int .i64 (fullZ n - v)]) (by simp [results, Try.results86, go_sem, *]) rfl ?_
  exact ⟨rfl, by go_grown⟩

end Go.Proofs.Ytkdidplpnhokiaa
