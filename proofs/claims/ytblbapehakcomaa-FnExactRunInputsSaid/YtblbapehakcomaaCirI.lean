/- Circuits: the program's, what is told of one situation. -/
import Derived.Test.YtblbapehakcomaaCirM
import Derived.Test.YtblbapehakcomaaCoF
import Derived.Test.YtblbapehakcomaaAt
import Derived.Test.YtblbapehakcomaaSets
import Derived.Test.YtblbapehakcomaaTool
import Derived.Deep.RegionWith
import Derived.Deep.RegionHeld3
import Derived.Deep.DeepCutAuto
namespace Go.Proofs.Ytblbapehakcomaa
open Go.RowKit
set_option linter.unusedVariables false

theorem isSizeC (x most : Int) (w : World) {b : Bool} (hb : decide (1 ≤ x ∧ x ≤ most) = b) :
    Calls Try.prog 54 #[.int .i64 x, .int .i64 most] w fun e w' => e = .returned (.bool b) ∧ w = w' := by
  by_cases h1 : 1 ≤ x
  · by_cases h2 : x ≤ most
    · have HB : Hid (b = true) := by rw [Hid, ← hb]; exact decide_eq_true ⟨h1, h2⟩
      clear hb
      go_enter Try.func54, Try.ntmps54
      go_wp2
      go_ret
      exact ⟨by rw [HB.out]; rfl, rfl⟩
    · have HB : Hid (b = false) := by rw [Hid, ← hb]; exact decide_eq_false fun h => h2 h.2
      clear hb
      go_enter Try.func54, Try.ntmps54
      go_wp2
      go_ret
      exact ⟨by rw [HB.out]; rfl, rfl⟩
  · have HB : Hid (b = false) := by rw [Hid, ← hb]; exact decide_eq_false fun h => h1 h.1
    clear hb
    go_enter Try.func54, Try.ntmps54
    go_wp2
    go_ret
    exact ⟨by rw [HB.out]; rfl, rfl⟩
theorem isBelowC (x l : Int) (w : World) {b : Bool} (hb : decide (0 ≤ x ∧ x < l) = b) :
    Calls Try.prog 75 #[.int .i64 x, .int .i64 l] w fun e w' => e = .returned (.bool b) ∧ w = w' := by
  subst hb
  by_cases h : 0 ≤ x ∧ x < l
  · rw [decide_eq_true h]; exact isBelow_yes x l w h
  · rw [decide_eq_false h]; exact isBelow_no x l w h

theorem relayCount_any (p : Int) (v : Value) (xs : List Int) (w : World) (ha : Reads w v xs) :
    Calls Try.prog 53 #[.agg #[.int .i64 p, v]] w fun e w' => e = .returned (.int .i64 (xs.length : Int)) ∧ Below w.heap.size w w' := by
  obtain ⟨a, ca, rfl, hm, _⟩ := ha
  unfold maxLen at hm
  generalize xs.length = n at *
  go_enter Try.func53, Try.ntmps53
  go_wp2
  go_ret
  exact ⟨rfl, by go_grown⟩

theorem stateCount_any (p : Int) (v : Value) (xs : List Int) (w : World) (ha : Reads w v xs) (h1 : 1 ≤ xs.length) (h5 : xs.length ≤ 5) :
    Calls Try.prog 82 #[.agg #[.int .i64 p, v]] w fun e w' => e = .returned (.int .i64 (rcZ xs.length)) ∧ Below w.heap.size w w' := by
  have HR := Lib.hid (fun w' (h : Below w.heap.size w w') => relayCount_any p v xs w' (ha.keep h))
  have HC := Lib.hid (fun w => rowCount_any (xs.length : Int) w (by omega) (by omega))
  obtain ⟨a, ca, rfl, hm, _⟩ := ha
  generalize xs.length = n at *
  go_enter Try.func82, Try.ntmps82
  go_wp2_with (first | (go_at_call 53; (with_reducible refine (HR.out _ (by go_grown)).mono ?_); rintro e w' ⟨rfl, hb⟩; have hL := chain (B := w.heap.size) (a := w) (by go_grown) (Nat.le_refl _) hb; clear hb) | (go_at_call 81; (with_reducible refine (HC.out _).mono ?_); rintro e w' ⟨rfl, rfl⟩))
  go_ret
  exact ⟨rfl, hL⟩

theorem areInputs_any (p i : Int) (v : Value) (xs : List Int) (w : World) (ha : Reads w v xs) (h1 : 1 ≤ p) (h5 : p ≤ 5) {b : Bool} (hb : inB i p = b) :
    Calls Try.prog 65 #[.agg #[.int .i64 p, v], .int .i64 i] w fun e w' => e = .returned (.bool b) ∧ Below w.heap.size w w' := by
  have HC := Lib.hid (fun w => rowCount_any p w (by omega) (by omega))
  have HB := Lib.hid (fun w => isBelowC i (rcZ p) w hb)
  obtain ⟨a, ca, rfl, hm, _⟩ := ha
  clear hb
  generalize xs.length = n at *
  generalize rcZ p = q at *
  go_enter Try.func65, Try.ntmps65
  go_wp2_with (first | (go_at_call 81; (with_reducible refine (HC.out _).mono ?_); rintro e w' ⟨rfl, rfl⟩) | (go_at_call 75; (with_reducible refine (HB.out _).mono ?_); rintro e w' ⟨rfl, rfl⟩))
  go_ret
  exact ⟨rfl, by go_grown⟩

theorem isState_any (p s : Int) (v : Value) (xs : List Int) (w : World) (ha : Reads w v xs) (h1 : 1 ≤ xs.length) (h5 : xs.length ≤ 5) {b : Bool} (hb : inB s xs.length = b) :
    Calls Try.prog 78 #[.agg #[.int .i64 p, v], .int .i64 s] w fun e w' => e = .returned (.bool b) ∧ Below w.heap.size w w' := by
  have HC := Lib.hid (fun w' (h : Below w.heap.size w w') => stateCount_any p v xs w' (ha.keep h) h1 h5)
  have HB := Lib.hid (fun w => isBelowC s (rcZ xs.length) w hb)
  obtain ⟨a, ca, rfl, hm, _⟩ := ha
  clear hb
  generalize rcZ xs.length = q at *
  generalize xs.length = n at *
  go_enter Try.func78, Try.ntmps78
  go_wp2_with (first | (go_at_call 82; (with_reducible refine (HC.out _ (by go_grown)).mono ?_); rintro e w' ⟨rfl, hb⟩; have hL := chain (B := w.heap.size) (a := w) (by go_grown) (Nat.le_refl _) hb; clear hb) | (go_at_call 75; (with_reducible refine (HB.out _).mono ?_); rintro e w' ⟨rfl, rfl⟩))
  go_ret
  exact ⟨rfl, hL⟩

theorem noTable_any (p m x : Int) (bn bm : Nat) (w : World) (hp : 0 ≤ p ∧ p ≤ 10) (hm : 0 ≤ m ∧ m ≤ 10) (c0 : w.cell? ⟨bn, 0, none⟩ = some (.int .i64 p)) (c1 : w.cell? ⟨bm, 0, none⟩ = some (.int .i64 m)) :
    Calls Try.prog 55 #[.int .i64 x, .pointer (some ⟨bn, 0, none⟩), .pointer (some ⟨bm, 0, none⟩)] w fun e w' => e = .returned (.bool (!(isTab (p + m) x))) ∧ Below w.heap.size w w' := by
  obtain ⟨p0, p1⟩ := hp
  obtain ⟨m0, m1⟩ := hm
  have HT := Lib.hid (fun w => isTable_any (p + m) x w)
  generalize isTab (p + m) x = b at *
  go_enter Try.func55, Try.ntmps55
  go_wp2_with (go_at_call 56; (with_reducible refine (HT.out _).mono ?_); rintro e w' ⟨rfl, hb⟩; have hL := chain (B := w.heap.size) (a := w) (by go_grown) (Nat.le_refl _) hb; clear hb)
  go_ret
  exact ⟨rfl, hL⟩

end Go.Proofs.Ytblbapehakcomaa
