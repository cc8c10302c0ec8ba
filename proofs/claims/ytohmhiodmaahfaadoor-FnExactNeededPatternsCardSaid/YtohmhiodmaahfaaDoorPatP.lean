/- Patterns: the program's rowsUnder, isImplied, signsOf, isPattern. -/
import Derived.Test.YtohmhiodmaahfaaDoorPatI
namespace Go.Proofs.YtohmhiodmaahfaaDoor
open Go.RowKit
set_option linter.unusedVariables false

set_option maxRecDepth 100000 in
set_option maxHeartbeats 4000000 in
theorem rowsUnder_any (f : Nat → Int) (hf : ByteF f) (n : Int) (w : World) (n1 : 1 ≤ n) (n5 : n ≤ 5) :
    Calls Tryd.prog 47 #[patA f, .int .i64 n] w fun e w' => e = .returned (.int .i64 ((rowsF f (2 ^ n.toNat) : Nat) : Int)) ∧ Below w.heap.size w w' := by
  obtain ⟨N, rfl⟩ : ∃ N : Nat, n = (N : Int) := ⟨n.toNat, by omega⟩
  simp only [Int.toNat_natCast]
  obtain ⟨M, hM⟩ : ∃ M, 2 ^ N = M := ⟨_, rfl⟩
  have hM32 : M ≤ 32 := by rw [← hM]; exact Nat.pow_le_pow_right (n := 2) (by decide) (show N ≤ 5 by omega)
  have HPC : Hid (∀ w, Calls Tryd.prog 73 #[.int .i64 (N : Int)] w fun e w' => e = .returned (.int .i64 (M : Int)) ∧ w = w') := fun w => by
    have := rowCount_any (N : Int) w n1 n5; unfold rcZ at this; rw [Int.toNat_natCast, hM] at this; exact this
  have HC := Lib.hid (fun (k : Nat) (hk : k < 32) (w : World) => covers_any f hf (k : Int) w (by omega) (by omega))
  have HS := Lib.hid (fun (k : Nat) (h : covF f (k : Int) = false) => rowsF_skip h)
  have HO := Lib.hid (fun (k : Nat) (hk : k < 32) (h : covF f (k : Int) = true) => rowsF_or hk h)
  have HL := Lib.hid (fun k => rowsF_lt f k)
  rw [hM]
  clear hf hM n1
  unfold patA at HC ⊢
  have k5 := C5.here w (.int .u8 (f 0)) (.int .u8 (f 1)) (.int .u8 (f 2)) (.int .u8 (f 3)) (.int .u8 (f 4)) 62
  generalize f 0 = x0 at *
  generalize f 1 = x1 at *
  generalize f 2 = x2 at *
  generalize f 3 = x3 at *
  generalize f 4 = x4 at *
  go_enter Tryd.func47, Tryd.ntmps47
  go_wp2_with ((go_at_call 73; (with_reducible refine (HPC.out _).mono ?_); rintro e w' ⟨rfl, rfl⟩))
  go_loopw [5, 9] (fun s c wr => ∃ k : Nat, k ≤ M ∧ c = .int .i64 (k : Int) ∧ s = .int .i64 ((rowsF f k : Nat) : Int) ∧ Below w.heap.size w wr ∧ C5 wr w.heap.size (.int .u8 x0) (.int .u8 x1) (.int .u8 x2) (.int .u8 x3) (.int .u8 x4)) (fun _ c _ => M - (intOf c).toNat)
  case atStart => exact ⟨0, Nat.zero_le _, rfl, rfl, by go_grown, k5⟩
  case round =>
    clear k5
    obtain ⟨k, hk, rfl, rfl, hL, k5⟩ := hrel
    by_cases hkl : k < M
    · have hk1 : (k : Int) < (M : Int) := by omega
      have hk0 : (0 : Int) ≤ (k : Int) := by omega
      have HCk := Lib.hid (fun w => HC.out k (by omega) w)
      cases hc : covF f (k : Int)
      · have HN := Lib.hid (HS.out k hc)
        rw [hc] at HCk
        clear hc
        generalize rowsF f k = R at *
        go_wp2_with (go_at_call 74; (with_reducible refine (HCk.out _).mono ?_); rintro e w2 ⟨rfl, hb⟩; replace hL := chain (B := w.heap.size) (a := w) hL (Nat.le_refl _) hb; replace k5 := keepAt5 hb k5; clear hb)
        exact ⟨⟨k + 1, by omega, by go_num, by rw [HN.out], hL, k5⟩, by simp [intOf]; omega⟩
      · have hN := HO.out k (by omega) hc
        have hp : IntKind.i64.wrap (2 ^ k) = 2 ^ k ∧ wrap64 (2 ^ k) = 2 ^ k := by
          have key : ∀ k : Fin 32, IntKind.i64.wrap (2 ^ k.val) = 2 ^ k.val ∧ wrap64 (2 ^ k.val) = 2 ^ k.val := by decide +kernel
          exact key ⟨k, by omega⟩
        obtain ⟨hp1, hp2⟩ := hp
        rw [hc] at HCk
        clear hc
        obtain ⟨R2, hR2⟩ : ∃ R2, rowsF f (k + 1) = R2 := ⟨_, rfl⟩
        rw [hR2] at hN
        have HR2 := Lib.hid hR2
        clear hR2
        generalize rowsF f k = R at *
        go_wp2_with (go_at_call 74; (with_reducible refine (HCk.out _).mono ?_); rintro e w2 ⟨rfl, hb⟩; replace hL := chain (B := w.heap.size) (a := w) hL (Nat.le_refl _) hb; replace k5 := keepAt5 hb k5; clear hb)
        exact ⟨⟨k + 1, by omega, by go_num, by rw [HR2.out], hL, k5⟩, by simp [intOf]; omega⟩
    · have e : k = M := by omega
      have hkn : ¬ (k : Int) < (M : Int) := by omega
      rw [e]
      clear e
      go_wp2_with fail
      go_ret
      exact ⟨rfl, hL⟩

set_option maxRecDepth 100000 in
set_option maxHeartbeats 4000000 in
theorem isImplied_any (n v : Int) (f : Nat → Int) (hf : ByteF f) (w : World) (n1 : 1 ≤ n) (n5 : n ≤ 5) (v0 : 0 ≤ v) (v1 : v < 9223372036854775808) :
    Calls Tryd.prog 40 #[.agg #[.int .i64 n, .int .i64 v], patA f] w fun e w' => e = .returned (.bool (impF v f (2 ^ n.toNat))) ∧ Below w.heap.size w w' := by
  have HR := Lib.hid (fun w => rowsUnder_any f hf n w n1 n5)
  have HB := Lib.hid (impF_bits v0 v1 f (k := 2 ^ n.toNat) (Nat.pow_le_pow_right (n := 2) (by decide) (show n.toNat ≤ 5 by omega)))
  clear hf
  generalize rowsF f (2 ^ n.toNat) = R at *
  unfold patA at HR ⊢
  have k0 := (C2.here w (.int .i64 n) (.int .i64 v) 29).alloc (.cells #[.int .u8 (f 0), .int .u8 (f 1), .int .u8 (f 2), .int .u8 (f 3), .int .u8 (f 4)] 62)
  obtain ⟨x0, h0⟩ : ∃ x, f 0 = x := ⟨_, rfl⟩
  obtain ⟨x1, h1⟩ : ∃ x, f 1 = x := ⟨_, rfl⟩
  obtain ⟨x2, h2⟩ : ∃ x, f 2 = x := ⟨_, rfl⟩
  obtain ⟨x3, h3⟩ : ∃ x, f 3 = x := ⟨_, rfl⟩
  obtain ⟨x4, h4⟩ : ∃ x, f 4 = x := ⟨_, rfl⟩
  rw [h0, h1, h2, h3, h4] at HR k0
  rw [h0, h1, h2, h3, h4]
  clear h0 h1 h2 h3 h4
  go_enter Tryd.func40, Tryd.ntmps40
  go_wp2_with fail
  go_region_with ((go_at_call 47; (with_reducible refine (HR.out _).mono ?_); rintro e w2 ⟨rfl, hb⟩; have hL := chain (B := w.heap.size) (a := w) (by go_grown) (Nat.le_refl _) hb; replace k0 := keepAt hb k0; clear hb))
  all_goals (go_wp2_with fail)
  all_goals go_ret
  all_goals exact ⟨by rw [← HB.out]; rfl, by first | exact hL | exact Bdrew hL 1 | go_grown⟩

end Go.Proofs.YtohmhiodmaahfaaDoor
