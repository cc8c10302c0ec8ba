/- CountSelectors: both contracts. -/
import Derived.Test.YtbliibcfnfgdmaaAt
import Derived.LoopTactic
namespace Go.Proofs.Ytbliibcfnfgdmaa
open Go.RowKit
set_option linter.unusedVariables false

/-- the number of all selectors for so many inputs -/
def csN : Nat → Nat
  | 0 => 1
  | k + 1 => csN k * csN k * (k + 1)
theorem cs_stepI : ∀ k : Fin 5, wrap64 ((csN k.val : Int) * wrap64 ((csN k.val : Int) * ((k.val : Int) + 1))) = (csN (k.val + 1) : Int) := by decide +kernel
theorem cs_stepS : ∀ k : Fin 5, wrap64 (wrap64 (((k.val : Int) + 1) * (csN k.val : Int)) * (csN k.val : Int)) = (csN (k.val + 1) : Int) := by decide +kernel
def resCountSelectors_0 (n : Int) : Int := if 1 ≤ n ∧ n ≤ 5 then (csN n.toNat : Int) else 0
def resCountSelectors_1 (n : Int) : Int := if 1 ≤ n ∧ n ≤ 5 then 0 else 2

set_option maxRecDepth 100000 in
set_option maxHeartbeats 1000000 in
theorem iCountSelectors_any (n : Int) (w : World) :
    Calls Try.prog 29 #[.int .i64 n] w fun e w' => e = .returned (.tuple #[.int .i64 (resCountSelectors_0 n), .int .i64 (resCountSelectors_1 n)]) ∧ Below w.heap.size w w' := by
  unfold resCountSelectors_0 resCountSelectors_1
  by_cases h : 1 ≤ n ∧ n ≤ 5
  · rw [if_pos h, if_pos h]
    have HI := Lib.hid (fun w => isInputCount_yes n w h.1 h.2)
    obtain ⟨N, rfl⟩ : ∃ N : Nat, n = (N : Int) := ⟨n.toNat, by omega⟩
    rw [Int.toNat_natCast]
    have HS : Hid (∀ k, k < N → wrap64 ((csN k : Int) * wrap64 ((csN k : Int) * ((k : Int) + 1))) = (csN (k + 1) : Int)) := fun k hk => cs_stepI ⟨k, by omega⟩
    have H0 : Hid ((csN 0 : Int) = 1) := rfl
    obtain ⟨h1, h5⟩ := h
    go_enter Try.func29, Try.ntmps29
    go_wp2_with ((go_at_call 50; (with_reducible refine (HI.out _).mono ?_); rintro e w' ⟨rfl, rfl⟩))
    go_loopw [4, 10] (fun r c wr => ∃ k : Nat, k ≤ N ∧ c = .int .i64 (k : Int) ∧ r = .int .i64 (csN k : Int) ∧ Below w.heap.size w wr) (fun _ c _ => N - (intOf c).toNat)
    case atStart => exact ⟨0, Nat.zero_le _, rfl, by rw [H0.out], Below.refl _ _⟩
    case round =>
      obtain ⟨k, hk, rfl, rfl, hL⟩ := hrel
      by_cases hlt : k < N
      · have hs := Lib.hid (HS.out k hlt)
        have hk1 : (k : Int) < (N : Int) := by omega
        generalize (csN k : Int) = C at *
        go_wp2_with fail
        rw [hs.out]
        exact ⟨⟨k + 1, by omega, by go_num, rfl, hL⟩, by simp [intOf]; omega⟩
      · have e : k = N := by omega
        subst e
        go_wp2_with fail
        go_ret2
        exact ⟨rfl, hL⟩
  · rw [if_neg h, if_neg h]
    have HI := Lib.hid (fun w => isInputCount_no n w (by omega))
    clear h
    go_enter Try.func29, Try.ntmps29
    go_wp2_with ((go_at_call 50; (with_reducible refine (HI.out _).mono ?_); rintro e w' ⟨rfl, rfl⟩))
    go_ret2
    exact ⟨rfl, Below.refl _ _⟩

set_option maxRecDepth 100000 in
set_option maxHeartbeats 1000000 in
theorem sCountSelectors_any (n : Int) (w : World) :
    Calls Try.prog 28 #[.int .i64 n] w fun e w' => e = .returned (.tuple #[.int .i64 (resCountSelectors_0 n), .int .i64 (resCountSelectors_1 n)]) ∧ Below w.heap.size w w' := by
  unfold resCountSelectors_0 resCountSelectors_1
  by_cases h : 1 ≤ n ∧ n ≤ 5
  · rw [if_pos h, if_pos h]
    have HI := Lib.hid (fun w => l01In_yes n 1 5 w h)
    obtain ⟨N, rfl⟩ : ∃ N : Nat, n = (N : Int) := ⟨n.toNat, by omega⟩
    rw [Int.toNat_natCast]
    have HS : Hid (∀ k, k < N → wrap64 (wrap64 (((k : Int) + 1) * (csN k : Int)) * (csN k : Int)) = (csN (k + 1) : Int)) := fun k hk => cs_stepS ⟨k, by omega⟩
    have H0 : Hid ((csN 0 : Int) = 1) := rfl
    obtain ⟨h1, h5⟩ := h
    go_enter Try.func28, Try.ntmps28
    go_wp2_with ((go_at_call 56; (with_reducible refine (HI.out _).mono ?_); rintro e w' ⟨rfl, rfl⟩))
    go_loopw [4, 5] (fun r c wr => ∃ k : Nat, k ≤ N ∧ c = .int .i64 ((k : Int) + 1) ∧ r = .int .i64 (csN k : Int) ∧ Below w.heap.size w wr) (fun _ c _ => (N + 1) - (intOf c).toNat)
    case atStart => exact ⟨0, Nat.zero_le _, rfl, by rw [H0.out], Below.refl _ _⟩
    case round =>
      obtain ⟨k, hk, rfl, rfl, hL⟩ := hrel
      by_cases hlt : k < N
      · have hs := Lib.hid (HS.out k hlt)
        have hk1 : (k : Int) + 1 ≤ (N : Int) := by omega
        generalize (csN k : Int) = C at *
        go_wp2_with fail
        rw [hs.out]
        exact ⟨⟨k + 1, by omega, by go_num, rfl, hL⟩, by simp [intOf]; omega⟩
      · have e : k = N := by omega
        have hk1 : ¬ (k : Int) + 1 ≤ (N : Int) := by omega
        subst e
        go_wp2_with fail
        go_ret2
        exact ⟨rfl, hL⟩
  · rw [if_neg h, if_neg h]
    have HI := Lib.hid (fun w => l01In_no n 1 5 w h)
    clear h
    go_enter Try.func28, Try.ntmps28
    go_wp2_with ((go_at_call 56; (with_reducible refine (HI.out _).mono ?_); rintro e w' ⟨rfl, rfl⟩))
    go_ret2
    exact ⟨rfl, Below.refl _ _⟩

end Go.Proofs.Ytbliibcfnfgdmaa
