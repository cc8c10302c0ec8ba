/- The signs of formulas: the program's small functions. -/
import Derived.Test.YtohmhiodmaahfaaDoorFm
import Derived.Test.YtohmhiodmaahfaaDoorSplitM
import Derived.Test.YtohmhiodmaahfaaDoorAt
namespace Go.Proofs.YtohmhiodmaahfaaDoor
open Go.RowKit
set_option linter.unusedVariables false

/-- a make or break contact -/
def letC (c : Int) : Bool := decide ((97 ≤ c ∧ c ≤ 101) ∨ (65 ≤ c ∧ c ≤ 69))
def inpC (c : Int) : Int := if c < 97 then c - 65 else c - 97
def kndC (c : Int) : Int := if c < 97 then 1 else 0
theorem letC_iff {c : Int} (h0 : 0 ≤ c) : letC c = true ↔ (0 ≤ inpC c ∧ inpC c < 5) := by
  unfold letC inpC
  rw [decide_eq_true_iff]
  split <;> omega
theorem leafC_eq (c : Int) : leafC c = (letC c || decide (c = 48) || decide (c = 49)) := by
  unfold leafC letC
  rw [Bool.eq_iff_iff]
  simp only [Bool.or_eq_true, decide_eq_true_iff]
  omega

theorem isBracket_yes (c : Int) (w : World) (h : openC c = true) : Calls Tryd.prog 63 #[.int .u8 c] w fun e w' => e = .returned (.bool true) ∧ w = w' := by
  have h2 := of_decide_eq_true (show decide (c = 40 ∨ c = 91) = true from h)
  rcases h2 with rfl | rfl
  · go_enter Tryd.func63, Tryd.ntmps63
    go_wp2
    go_ret
    exact ⟨rfl, rfl⟩
  · go_enter Tryd.func63, Tryd.ntmps63
    go_wp2
    go_ret
    exact ⟨rfl, rfl⟩
theorem isBracket_no (c : Int) (w : World) (h : openC c = false) : Calls Tryd.prog 63 #[.int .u8 c] w fun e w' => e = .returned (.bool false) ∧ w = w' := by
  have h2 := of_decide_eq_false (show decide (c = 40 ∨ c = 91) = false from h)
  have e1 : (c == 40) = false := by simp; omega
  have e2 : (c == 91) = false := by simp; omega
  clear h h2
  go_enter Tryd.func63, Tryd.ntmps63
  go_wp2
  go_ret
  exact ⟨rfl, rfl⟩
theorem closingOf_any (c : Int) (w : World) (h : openC c = true) {d : Int} (hd : closeC c = d) : Calls Tryd.prog 65 #[.int .u8 c] w fun e w' => e = .returned (.int .u8 d) ∧ w = w' := by
  have h2 := of_decide_eq_true (show decide (c = 40 ∨ c = 91) = true from h)
  subst hd
  rcases h2 with rfl | rfl
  · go_enter Tryd.func65, Tryd.ntmps65
    go_wp2
    go_ret
    exact ⟨rfl, rfl⟩
  · go_enter Tryd.func65, Tryd.ntmps65
    go_wp2
    go_ret
    exact ⟨rfl, rfl⟩
theorem inputAndKind_any (c : Int) (w : World) (h0 : 0 ≤ c) (h1 : c < 256) {i k : Int} (hi : inpC c = i) (hk : kndC c = k) : Calls Tryd.prog 83 #[.int .u8 c] w fun e w' => e = .returned (.tuple #[.int .i64 i, .int .i64 k]) ∧ w = w' := by
  by_cases h : c < 97
  · have e1 : inpC c = c - 65 := by unfold inpC; rw [if_pos h]
    have e2 : kndC c = 1 := by unfold kndC; rw [if_pos h]
    rw [e1] at hi
    rw [e2] at hk
    subst hi hk
    clear e1 e2
    go_enter Tryd.func83, Tryd.ntmps83
    go_wp2
    go_ret2
    exact ⟨rfl, rfl⟩
  · have e1 : inpC c = c - 97 := by unfold inpC; rw [if_neg h]
    have e2 : kndC c = 0 := by unfold kndC; rw [if_neg h]
    rw [e1] at hi
    rw [e2] at hk
    subst hi hk
    clear e1 e2
    go_enter Tryd.func83, Tryd.ntmps83
    go_wp2
    go_ret2
    exact ⟨rfl, rfl⟩
theorem isContactLetter_any (c : Int) (w : World) (h0 : 0 ≤ c) (h1 : c < 256) {b : Bool} (hb : letC c = b) : Calls Tryd.prog 64 #[.int .u8 c] w fun e w' => e = .returned (.bool b) ∧ w = w' := by
  obtain ⟨i, hi⟩ : ∃ i, inpC c = i := ⟨_, rfl⟩
  obtain ⟨k, hk⟩ : ∃ k, kndC c = k := ⟨_, rfl⟩
  have hl := letC_iff h0
  rw [hi] at hl
  have HI := Lib.hid (inputAndKind_any c w h0 h1 hi hk)
  clear hi hk h0 h1
  cases b with
  | true =>
    have HB : Hid (0 ≤ i ∧ i < 5) := hl.1 hb
    clear hl hb
    go_enter Tryd.func64, Tryd.ntmps64
    go_wp2_with (first | (go_at_call 83; (with_reducible refine HI.out.mono ?_); rintro e w' ⟨rfl, rfl⟩) | (go_at_call 84; (with_reducible refine (isBelow_yes _ _ _ HB.out).mono ?_); rintro e w' ⟨rfl, rfl⟩))
    go_ret
    exact ⟨rfl, rfl⟩
  | false =>
    have HB : Hid (¬ (0 ≤ i ∧ i < 5)) := fun h => by rw [hl.2 h] at hb; cases hb
    clear hl hb
    go_enter Tryd.func64, Tryd.ntmps64
    go_wp2_with (first | (go_at_call 83; (with_reducible refine HI.out.mono ?_); rintro e w' ⟨rfl, rfl⟩) | (go_at_call 84; (with_reducible refine (isBelow_no _ _ _ HB.out).mono ?_); rintro e w' ⟨rfl, rfl⟩))
    go_ret
    exact ⟨rfl, rfl⟩

end Go.Proofs.YtohmhiodmaahfaaDoor
