/- ProductOf, SumOf, DifferenceOf: the program's and the model's. -/
import Derived.Test.YtgcdpbikeimelaaVal
namespace Go.Proofs.Ytgcdpbikeimelaa
open Go.RowKit
set_option linter.unusedVariables false

/-- the code of two tables that are joined row by row -/
def pairErr (n v m u : Int) : Int := if isTab n v = true ∧ isTab m u = true then (if n = m then 0 else 2) else 1
theorem pairErr_cases (n v m u : Int) : (isTab n v = false ∧ pairErr n v m u = 1) ∨ (isTab n v = true ∧ isTab m u = false ∧ pairErr n v m u = 1) ∨
    (isTab n v = true ∧ isTab m u = true ∧ n ≠ m ∧ pairErr n v m u = 2) ∨ (isTab n v = true ∧ isTab m u = true ∧ n = m ∧ pairErr n v m u = 0) := by
  unfold pairErr
  cases isTab n v <;> cases isTab m u <;> simp
  by_cases h : n = m <;> simp [h]

theorem pairError_any (n v m u : Int) (w : World) :
    Calls Try.prog 57 #[.agg #[.int .i64 n, .int .i64 v], .agg #[.int .i64 m, .int .i64 u]] w fun e w' => e = .returned (.int .i64 (pairErr n v m u)) ∧ Below w.heap.size w w' := by
  have hB0 := Bx2.here w (.cells #[.int .i64 n, .int .i64 v] 25) (.cells #[.int .i64 m, .int .i64 u] 25)
  rcases pairErr_cases n v m u with ⟨ht, hr⟩ | ⟨ht, hu, hr⟩ | ⟨ht, hu, hn, hr⟩ | ⟨ht, hu, hn, hr⟩
  · have Ht := Lib.hid ht
    have Hr := Lib.hid hr
    clear ht hr
    go_enter Try.func57, Try.ntmps57
    go_wp2_with (first | (go_at_call 15; (with_reducible refine (isTable_b _ _ _ Ht.out).mono ?_); rintro e w' ⟨rfl, hb⟩; have hB := Bx2.next (by assumption) hb; obtain ⟨_, _, _, _⟩ := hB.tab; have := hB.size; clear hb))
    go_ret
    exact ⟨by rw [Hr.out]; rfl, (Bx2.below (by assumption))⟩
  · have Ht := Lib.hid ht
    have Hu := Lib.hid hu
    have Hr := Lib.hid hr
    clear ht hu hr
    go_enter Try.func57, Try.ntmps57
    go_wp2_with (first | (go_at_call 15; (with_reducible refine (isTable_b _ _ _ Ht.out).mono ?_); rintro e w' ⟨rfl, hb⟩; have hB := Bx2.next (by assumption) hb; obtain ⟨_, _, _, _⟩ := hB.tab; have := hB.size; clear hb) | (go_at_call 15; (with_reducible refine (isTable_b _ _ _ Hu.out).mono ?_); rintro e w' ⟨rfl, hb⟩; have hB := Bx2.next (by assumption) hb; obtain ⟨_, _, _, _⟩ := hB.tab; have := hB.size; clear hb))
    go_ret
    exact ⟨by rw [Hr.out]; rfl, (Bx2.below (by assumption))⟩
  · have Ht := Lib.hid ht
    have Hu := Lib.hid hu
    have Hr := Lib.hid hr
    clear ht hu hr
    have hne : (n != m) = true := by simpa using hn
    go_enter Try.func57, Try.ntmps57
    go_wp2_with (first | (go_at_call 15; (with_reducible refine (isTable_b _ _ _ Ht.out).mono ?_); rintro e w' ⟨rfl, hb⟩; have hB := Bx2.next (by assumption) hb; obtain ⟨_, _, _, _⟩ := hB.tab; have := hB.size; clear hb) | (go_at_call 15; (with_reducible refine (isTable_b _ _ _ Hu.out).mono ?_); rintro e w' ⟨rfl, hb⟩; have hB := Bx2.next (by assumption) hb; obtain ⟨_, _, _, _⟩ := hB.tab; have := hB.size; clear hb))
    go_ret
    exact ⟨by rw [Hr.out]; rfl, (Bx2.below (by assumption))⟩
  · subst hn
    have Ht := Lib.hid ht
    have Hu := Lib.hid hu
    have Hr := Lib.hid hr
    clear ht hu hr
    go_enter Try.func57, Try.ntmps57
    go_wp2_with (first | (go_at_call 15; (with_reducible refine (isTable_b _ _ _ Ht.out).mono ?_); rintro e w' ⟨rfl, hb⟩; have hB := Bx2.next (by assumption) hb; obtain ⟨_, _, _, _⟩ := hB.tab; have := hB.size; clear hb) | (go_at_call 15; (with_reducible refine (isTable_b _ _ _ Hu.out).mono ?_); rintro e w' ⟨rfl, hb⟩; have hB := Bx2.next (by assumption) hb; obtain ⟨_, _, _, _⟩ := hB.tab; have := hB.size; clear hb))
    go_ret
    exact ⟨by rw [Hr.out]; rfl, (Bx2.below (by assumption))⟩

theorem l01Both_any (n v m u : Int) (w : World) :
    Calls Try.prog 55 #[.agg #[.int .i64 n, .int .i64 v], .agg #[.int .i64 m, .int .i64 u]] w fun e w' => e = .returned (.int .i64 (pairErr n v m u)) ∧ Below w.heap.size w w' := by
  have hB0 := Bx2.here w (.cells #[.int .i64 n, .int .i64 v] 25) (.cells #[.int .i64 m, .int .i64 u] 25)
  rcases pairErr_cases n v m u with ⟨ht, hr⟩ | ⟨ht, hu, hr⟩ | ⟨ht, hu, hn, hr⟩ | ⟨ht, hu, hn, hr⟩
  · have Ht := Lib.hid ht
    have Hr := Lib.hid hr
    clear ht hr
    go_enter Try.func55, Try.ntmps55
    go_wp2_with (first | (go_at_call 39; (with_reducible refine (l01Is_b _ _ _ Ht.out).mono ?_); rintro e w' ⟨rfl, hb⟩; have hB := Bx2.next (by assumption) hb; obtain ⟨_, _, _, _⟩ := hB.tab; have := hB.size; clear hb))
    go_ret
    exact ⟨by rw [Hr.out]; rfl, (Bx2.below (by assumption))⟩
  · have Ht := Lib.hid ht
    have Hu := Lib.hid hu
    have Hr := Lib.hid hr
    clear ht hu hr
    go_enter Try.func55, Try.ntmps55
    go_wp2_with (first | (go_at_call 39; (with_reducible refine (l01Is_b _ _ _ Ht.out).mono ?_); rintro e w' ⟨rfl, hb⟩; have hB := Bx2.next (by assumption) hb; obtain ⟨_, _, _, _⟩ := hB.tab; have := hB.size; clear hb) | (go_at_call 39; (with_reducible refine (l01Is_b _ _ _ Hu.out).mono ?_); rintro e w' ⟨rfl, hb⟩; have hB := Bx2.next (by assumption) hb; obtain ⟨_, _, _, _⟩ := hB.tab; have := hB.size; clear hb))
    go_ret
    exact ⟨by rw [Hr.out]; rfl, (Bx2.below (by assumption))⟩
  · have Ht := Lib.hid ht
    have Hu := Lib.hid hu
    have Hr := Lib.hid hr
    clear ht hu hr
    have hne : (n != m) = true := by simpa using hn
    go_enter Try.func55, Try.ntmps55
    go_wp2_with (first | (go_at_call 39; (with_reducible refine (l01Is_b _ _ _ Ht.out).mono ?_); rintro e w' ⟨rfl, hb⟩; have hB := Bx2.next (by assumption) hb; obtain ⟨_, _, _, _⟩ := hB.tab; have := hB.size; clear hb) | (go_at_call 39; (with_reducible refine (l01Is_b _ _ _ Hu.out).mono ?_); rintro e w' ⟨rfl, hb⟩; have hB := Bx2.next (by assumption) hb; obtain ⟨_, _, _, _⟩ := hB.tab; have := hB.size; clear hb))
    go_ret
    exact ⟨by rw [Hr.out]; rfl, (Bx2.below (by assumption))⟩
  · subst hn
    have Ht := Lib.hid ht
    have Hu := Lib.hid hu
    have Hr := Lib.hid hr
    clear ht hu hr
    go_enter Try.func55, Try.ntmps55
    go_wp2_with (first | (go_at_call 39; (with_reducible refine (l01Is_b _ _ _ Ht.out).mono ?_); rintro e w' ⟨rfl, hb⟩; have hB := Bx2.next (by assumption) hb; obtain ⟨_, _, _, _⟩ := hB.tab; have := hB.size; clear hb) | (go_at_call 39; (with_reducible refine (l01Is_b _ _ _ Hu.out).mono ?_); rintro e w' ⟨rfl, hb⟩; have hB := Bx2.next (by assumption) hb; obtain ⟨_, _, _, _⟩ := hB.tab; have := hB.size; clear hb))
    go_ret
    exact ⟨by rw [Hr.out]; rfl, (Bx2.below (by assumption))⟩


end Go.Proofs.Ytgcdpbikeimelaa
