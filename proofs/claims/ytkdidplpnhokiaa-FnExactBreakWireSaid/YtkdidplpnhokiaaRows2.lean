/- Slices of slices of int64: how they read, weighed, compared. -/
import Derived.Test.YtkdidplpnhokiaaCopy
namespace Go.Proofs.Ytkdidplpnhokiaa
open Go.RowKit
set_option linter.unusedVariables false

/-- how many numbers the first k lists have -/
def sumLen (xss : List (List Int)) : Nat → Nat
  | 0 => 0
  | k + 1 => sumLen xss k + (xss.getD k []).length
theorem sumLen_mono (xss : List (List Int)) {a b : Nat} (h : a ≤ b) : sumLen xss a ≤ sumLen xss b := by
  induction b with
  | zero => have : a = 0 := by omega
            subst this; exact Nat.le_refl _
  | succ b ih =>
    rcases Nat.lt_or_ge a (b + 1) with h1 | h1
    · have := ih (by omega); simp only [sumLen]; omega
    · have : a = b + 1 := by omega
      subst this; exact Nat.le_refl _

/-- the slice v reads as the lists xss -/
def Reads2 (w : World) (v : Value) (xss : List (List Int)) : Prop :=
  ∃ (a : Option Addr) (cap : Nat), v = .slice a xss.length cap ∧ xss.length ≤ maxLen ∧
    (xss = [] ∨ ∃ b off, a = some ⟨b, off, none⟩ ∧ ∀ i, i < xss.length → ∃ u, w.cell? ⟨b, off + i, none⟩ = some u ∧ Reads w u (xss.getD i []))
theorem Reads2.keep {w w' : World} {v : Value} {xss : List (List Int)} (h : Reads2 w v xss) (hb : Below w.heap.size w w') : Reads2 w' v xss := by
  obtain ⟨a, cap, rfl, hm, h⟩ := h
  refine ⟨a, cap, rfl, hm, ?_⟩
  rcases h with h | ⟨b, off, rfl, h⟩
  · exact .inl h
  · refine .inr ⟨b, off, rfl, fun i hi => ?_⟩
    obtain ⟨u, hu, hr⟩ := h i hi
    exact ⟨u, cell_later hb hu, hr.keep hb⟩
theorem Reads.len {w : World} {v : Value} {xs : List Int} (h : Reads w v xs) : xs.length ≤ maxLen := by
  obtain ⟨_, _, _, h, _⟩ := h; exact h

/-- what is left of a purse behind a list -/
def szZ (left : Int) (n : Nat) : Int := if left < n then -1 else left - n

theorem szInt64S_any (va : Value) (xs : List Int) (left : Int) (w : World) (ha : Reads w va xs) (l0 : 0 ≤ left) (l1 : left ≤ 1048576) :
    Calls Try.prog 55 #[va, .int .i64 left] w fun e w' => e = .returned (.int .i64 (szZ left xs.length)) ∧ w = w' := by
  obtain ⟨a, ca, rfl, hm, ha⟩ := ha
  clear ha
  generalize xs.length = n at *
  unfold maxLen at hm
  by_cases h : left < (n : Int)
  · have hr : Hid (szZ left n = -1) := by unfold Hid szZ; rw [if_pos h]
    have h2 : left - (n : Int) < 0 := by omega
    go_enter Try.func55, Try.ntmps55
    go_wp2
    go_ret
    exact ⟨by rw [hr.out]; rfl, rfl⟩
  · have hr : Hid (szZ left n = left - n) := by unfold Hid szZ; rw [if_neg h]
    have h2 : ¬ left - (n : Int) < 0 := by omega
    go_enter Try.func55, Try.ntmps55
    go_wp2
    go_ret
    exact ⟨by rw [hr.out]; rfl, rfl⟩

theorem szInt64S_b (va : Value) (xs : List Int) (left : Int) (w : World) (ha : Reads w va xs) (l0 : 0 ≤ left) (l1 : left ≤ 1048576) {z : Int} (hz : szZ left xs.length = z) :
    Calls Try.prog 55 #[va, .int .i64 left] w fun e w' => e = .returned (.int .i64 z) ∧ w = w' := by
  have := szInt64S_any va xs left w ha l0 l1
  rwa [hz] at this

/-- what is left of a purse behind lists -/
def szZ2 (left : Int) (xss : List (List Int)) : Int := if left < (xss.length + sumLen xss xss.length : Nat) then -1 else left - (xss.length + sumLen xss xss.length : Nat)
theorem szZ2_neg {left : Int} {xss : List (List Int)} {k : Nat} (hk : k ≤ xss.length) (h : left < (xss.length + sumLen xss k : Nat)) : szZ2 left xss = -1 := by
  unfold szZ2
  have := sumLen_mono xss hk
  rw [if_pos (by omega)]
theorem szZ2_pos {left : Int} {xss : List (List Int)} (h : szZ2 left xss ≠ -1) : ((xss.length + sumLen xss xss.length : Nat) : Int) ≤ left ∧ szZ2 left xss = left - (xss.length + sumLen xss xss.length : Nat) := by
  unfold szZ2 at *
  split at h
  · exact absurd rfl h
  · rename_i hh
    rw [if_neg hh]; omega

set_option maxHeartbeats 1000000 in
theorem szInt64SS_any (va : Value) (xss : List (List Int)) (left : Int) (w : World) (ha : Reads2 w va xss) (l0 : 0 ≤ left) (l1 : left ≤ 1048576) :
    Calls Try.prog 42 #[va, .int .i64 left] w fun e w' => e = .returned (.int .i64 (szZ2 left xss)) ∧ w = w' := by
  obtain ⟨a, ca, rfl, hm, ha⟩ := ha
  unfold maxLen at hm
  by_cases h : left < (xss.length : Int)
  · have hr : Hid (szZ2 left xss = -1) := szZ2_neg (Nat.zero_le _) (by simp [sumLen]; omega)
    generalize xss.length = n at *
    have h2 : left - (n : Int) < 0 := by omega
    clear ha
    go_enter Try.func42, Try.ntmps42
    go_wp2
    go_ret
    exact ⟨by rw [hr.out]; rfl, rfl⟩
  · have h2 : ¬ left - (xss.length : Int) < 0 := by omega
    rcases ha with rfl | ⟨b, off, rfl, ha⟩
    · have hr : Hid (szZ2 left [] = left) := by unfold Hid szZ2; simp [sumLen]; omega
      go_enter Try.func42, Try.ntmps42
      go_wp2
      refine wp_loop_rounds 1 ?_
      rw [rounds_succ]
      go_wp2
      go_ret
      exact ⟨by rw [hr.out]; rfl, rfl⟩
    · have Ha := Lib.hid ha
      have hN : Hid (∀ k, k ≤ xss.length → left < (xss.length + sumLen xss k : Nat) → szZ2 left xss = -1) := fun k hk h => szZ2_neg hk h
      have hA : Hid (¬ left < (xss.length + sumLen xss xss.length : Nat) → szZ2 left xss = left - (xss.length + sumLen xss xss.length : Nat)) := fun h => by unfold szZ2; rw [if_neg h]
      clear ha
      generalize hn : xss.length = n at *
      clear hn
      go_enter Try.func42, Try.ntmps42
      go_wp2_with fail
      go_loop [1, 5] (fun l c => ∃ (k : Nat) (r : Int), k ≤ n ∧ 0 ≤ r ∧ r ≤ 1048576 ∧ Hid (r = left - (n + sumLen xss k : Nat)) ∧ l = .int .i64 r ∧ c = .int .i64 (k : Int)) (fun _ c => n - (intOf c).toNat)
      case atStart => exact ⟨0, _, Nat.zero_le _, by omega, by omega, by unfold Hid; simp [sumLen], rfl, rfl⟩
      case round =>
        obtain ⟨k, r, hk, r0, r1, Hr, rfl, rfl⟩ := hrel
        by_cases hlt : k < n
        · obtain ⟨u, hca, hr⟩ := Ha.out k hlt
          have HR := Lib.hid hr
          have hi1 : (k : Int) < (n : Int) := by omega
          have hi0 : (0 : Int) ≤ (k : Int) := by omega
          have hs : sumLen xss (k + 1) = sumLen xss k + (xss.getD k []).length := rfl
          by_cases hneg : left < (n + sumLen xss (k + 1) : Nat)
          · have HE : Hid (szZ r (xss.getD k []).length = -1) := by unfold Hid szZ; have := Hr.out; rw [if_pos (by omega)]
            have HZ := Lib.hid (hN.out (k + 1) hlt hneg)
            clear hneg hs hr
            go_wp2_with (go_at_call 55; (with_reducible refine (szInt64S_b _ _ _ _ HR.out r0 r1 HE.out).mono ?_); rintro e w' ⟨rfl, rfl⟩)
            go_ret
            exact ⟨by rw [HZ.out]; rfl, rfl⟩
          · obtain ⟨r', h0, h1, Hr', HE⟩ : ∃ r', 0 ≤ r' ∧ r' ≤ 1048576 ∧ Hid (r' = left - (n + sumLen xss (k + 1) : Nat)) ∧ Hid (szZ r (xss.getD k []).length = r') := by
              have := Hr.out
              refine ⟨r - (xss.getD k []).length, by omega, by omega, by unfold Hid; omega, ?_⟩
              unfold Hid szZ; rw [if_neg (by omega)]
            have hp : ¬ r' < 0 := by omega
            clear hneg hs hr
            go_wp2_with (go_at_call 55; (with_reducible refine (szInt64S_b _ _ _ _ HR.out r0 r1 HE.out).mono ?_); rintro e w' ⟨rfl, rfl⟩)
            go_round
            case rel => exact ⟨k + 1, r', by omega, h0, h1, Hr', rfl, by go_num⟩
            case measure => simp [intOf]; omega
        · have e : k = n := by omega
          subst e
          have HZ : Hid (szZ2 left xss = r) := by have := Hr.out; have h := hA.out (by omega); unfold Hid; rw [h]; omega
          go_wp2_with fail
          go_ret
          exact ⟨by rw [HZ.out]; rfl, rfl⟩

end Go.Proofs.Ytkdidplpnhokiaa
