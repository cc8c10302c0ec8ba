/- impl.tableFrom: a table built row by row. -/
import Derived.Test.YtkdidplpnhokiaaAt
import Derived.LoopTactic
import Derived.Deep.RegionHeld3
import Derived.Deep.DeepCutAuto
import Derived.Deep.RegionWith
namespace Go.Proofs.Ytkdidplpnhokiaa
open Go.RowKit
set_option linter.unusedVariables false

/-- the number of Go whose digits f tells -/
def buildZ (f : Nat → Nat) (k : Nat) : Int := ((build f k : Nat) : Int)
theorem buildZ_bd (f : Nat → Nat) {k : Nat} (h : k ≤ 32) : 0 ≤ buildZ f k ∧ buildZ f k < 4294967296 := by
  have h1 := build_lt f k
  have h2 : 2 ^ k ≤ 2 ^ 32 := Nat.pow_le_pow_right (by decide) h
  unfold buildZ; omega

/-- one row more -/
theorem build_step (v : Int) (f : Nat → Nat) (k : Nat) (hk : k < 32) :
    bits .or .i64 (buildZ (fun j => dig v.toNat (f j)) k) (wrap64 (digZ v (f k : Int) * 2 ^ k)) = buildZ (fun j => dig v.toNat (f j)) (k + 1) := by
  have hb := build_lt (fun j => dig v.toNat (f j)) k
  have hp : 2 ^ k < 2 ^ 32 := Nat.pow_lt_pow_right (by decide) hk
  have hd := dig_lt v.toNat (f k)
  have e : digZ v (f k : Int) * 2 ^ k = ((dig v.toNat (f k) * 2 ^ k : Nat) : Int) := by
    unfold digZ; rw [Int.toNat_natCast]; simp
  have hm : dig v.toNat (f k) * 2 ^ k < 2 ^ 33 := by
    have : dig v.toNat (f k) * 2 ^ k ≤ 1 * 2 ^ k := Nat.mul_le_mul_right _ (by omega)
    omega
  rw [e, IntWalk.wrap64_in _ (by omega)]
  unfold buildZ
  rw [i64_or _ _ (by omega) (by omega)]
  have := build_or (fun j => dig v.toNat (f j)) k
  simp only [dig_mod] at this
  rw [this]

set_option maxRecDepth 100000 in
set_option maxHeartbeats 2000000 in
theorem tableFrom_any (n v m : Int) (F : Nat) (caps : Array Value) (f : Nat → Nat) (w : World) (h0 : 0 ≤ v) (hv : v < 9223372036854775808) (m1 : 1 ≤ m) (m5 : m ≤ 5)
    (hf : ∀ (k : Nat) (wx : World), k < 2 ^ m.toNat → Below w.heap.size w wx → Calls Try.prog F (#[.int .i64 (k : Int)] ++ caps) wx fun e w' => e = .returned (.int .i64 (f k : Int)) ∧ Below wx.heap.size wx w')
    (hfb : ∀ k, k < 2 ^ m.toNat → f k ≤ 62) (hE : ∀ (args : Array Value) (w : World), (callFunc F args).run Try.prog w = .ok (.enter F args) w) :
    Calls Try.prog 122 #[.agg #[.int .i64 n, .int .i64 v], .int .i64 m, .func (.func F) #[] caps] w fun e w' => e = .returned (.agg #[.int .i64 m, .int .i64 (buildZ (fun j => dig v.toNat (f j)) (2 ^ m.toNat))]) ∧ Below w.heap.size w w' := by
  have Hf := Lib.hid hf
  have Hfb := Lib.hid hfb
  have Hr : Hid (rcZ m = ((2 ^ m.toNat : Nat) : Int)) := rfl
  have hr := rcZ_bd m1 m5
  clear hf hfb
  have k0 : C2 (((w.alloc (.cells #[.int .i64 n, .int .i64 v] 44)).alloc (.cells #[.int .i64 0, .int .i64 0] 44)).alloc (.cells #[.int .i64 m, .int .i64 0] 44)) (w.heap.size) (.int .i64 n) (.int .i64 v) := by simpa using ((C2.here w (.int .i64 n) (.int .i64 v) 44).alloc (.cells #[.int .i64 0, .int .i64 0] 44)).alloc (.cells #[.int .i64 m, .int .i64 0] 44)
  have k1 : C2 (((w.alloc (.cells #[.int .i64 n, .int .i64 v] 44)).alloc (.cells #[.int .i64 0, .int .i64 0] 44)).alloc (.cells #[.int .i64 m, .int .i64 0] 44)) (w.heap.size + 1) (.int .i64 0) (.int .i64 0) := by simpa using (C2.here (w.alloc (.cells #[.int .i64 n, .int .i64 v] 44)) (.int .i64 0) (.int .i64 0) 44).alloc (.cells #[.int .i64 m, .int .i64 0] 44)
  have k2 : C2 (((w.alloc (.cells #[.int .i64 n, .int .i64 v] 44)).alloc (.cells #[.int .i64 0, .int .i64 0] 44)).alloc (.cells #[.int .i64 m, .int .i64 0] 44)) (w.heap.size + 1 + 1) (.int .i64 m) (.int .i64 0) := by simpa using C2.here ((w.alloc (.cells #[.int .i64 n, .int .i64 v] 44)).alloc (.cells #[.int .i64 0, .int .i64 0] 44)) (.int .i64 m) (.int .i64 0) 44
  go_enter Try.func122, Try.ntmps122
  go_wp2_with ((go_at_call 131; (with_reducible refine (rowCount_any _ _ m1 m5).mono ?_); rintro e w' ⟨rfl, rfl⟩))
  go_loopw [13] (fun c wr => ∃ k : Nat, (k : Int) ≤ rcZ m ∧ c = .int .i64 (k : Int) ∧ Below w.heap.size w wr ∧ C2 wr w.heap.size (.int .i64 n) (.int .i64 v) ∧ C2 wr (w.heap.size + 1) (.int .i64 0) (.int .i64 0) ∧ C2 wr (w.heap.size + 1 + 1) (.int .i64 m) (.int .i64 (buildZ (fun j => dig v.toNat (f j)) k)))
    (fun c _ => (rcZ m - intOf c).toNat)
  case atStart => exact ⟨0, by omega, rfl, by go_grown, k0, k1, k2⟩
  case round =>
    clear k0 k1 k2
    obtain ⟨k, hk, rfl, hL, k0, k1, k2⟩ := hrel
    by_cases hlt : (k : Int) < rcZ m
    · have Hk : Hid (k < 2 ^ m.toNat) := by have := Hr.out; unfold Hid; omega
      have hf62 := Hfb.out k Hk.out
      have Hs := Lib.hid (build_step v f k (by omega))
      go_wp2_with fail
      go_region_with (first | (go_at_call 129; (with_reducible refine (valueAt_any _ _ _ _ h0 hv (by omega) (by omega)).mono ?_); rintro e w' ⟨rfl, hb⟩; have hL := chain (B := w.heap.size) (a := w) (by go_grown) (Nat.le_refl _) hb; (first | replace k0 := keepAt hb k0 | replace k0 := keepAt hb (C2.alloc k0 _)); (first | replace k1 := keepAt hb k1 | replace k1 := keepAt hb (C2.alloc k1 _)); (first | replace k2 := keepAt hb k2 | replace k2 := keepAt hb (C2.alloc k2 _)); clear hb) | ((with_reducible refine (Hf.out k _ Hk.out (by first | exact hL | go_grown)).mono ?_); rintro e w' ⟨rfl, hb⟩; have hL := chain (B := w.heap.size) (a := w) (by go_grown) (Nat.le_refl _) hb; replace k0 := keepAt hb k0; replace k1 := keepAt hb k1; replace k2 := keepAt hb k2; clear hb))
      all_goals (go_wp2_with fail)
      all_goals (rw [Hs.out]; exact ⟨⟨k + 1, by omega, by go_num, by go_grown, k0.set _ _ _ (by omega), k1.set _ _ _ (by omega), k2.put1 _⟩, by simp [intOf]; omega⟩)
    · have Hk : Hid ((k : Nat) = 2 ^ m.toNat) := by have := Hr.out; unfold Hid; omega
      rw [Hk.out] at k2
      go_wp2_with fail
      refine bodyPost_ret (v := .agg #[.int .i64 m, .int .i64 (buildZ (fun j => dig v.toNat (f j)) (2 ^ m.toNat))]) (by simp [results, Try.results122, go_sem, *]) rfl ?_
      exact ⟨rfl, by go_grown⟩

end Go.Proofs.Ytkdidplpnhokiaa
