/- Contacts: the program's contracts (a contact; two lists compared). -/
import Derived.Test.YtglbndobbmgjmaaDoorAt
import Derived.Test.YtglbndobbmgjmaaDoorRows2
import Derived.Test.YtglbndobbmgjmaaDoorNetM
namespace Go.Proofs.YtglbndobbmgjmaaDoor
open Go.RowKit
set_option linter.unusedVariables false

theorem isContact_bad (a : Option Addr) (n ca : Nat) (p : Int) (w : World) (h : n ≠ 4) (hm : n ≤ 9223372036854775807) :
    Calls Tryd.prog 23 #[.slice a n ca, .int .i64 p] w fun e w' => e = .returned (.bool false) ∧ Below w.heap.size w w' := by
  have hd : (((n : Nat) : Int) == 4) = false := by simp; omega
  go_enter Tryd.func23, Tryd.ntmps23
  go_wp2_with fail
  go_quiet (fail)
  go_wp2
  go_ret
  exact ⟨rfl, Bdrew (Below.refl _ _) _⟩

set_option maxHeartbeats 1000000 in
theorem isContact_good (b off ca : Nat) (x0 x1 x2 x3 p : Int) (w : World) (c0 : w.cell? ⟨b, off, none⟩ = some (.int .i64 x0)) (c1 : w.cell? ⟨b, off + 1, none⟩ = some (.int .i64 x1)) (c2 : w.cell? ⟨b, off + 2, none⟩ = some (.int .i64 x2)) (c3 : w.cell? ⟨b, off + 3, none⟩ = some (.int .i64 x3)) :
    Calls Tryd.prog 23 #[.slice (some ⟨b, off, none⟩) 4 ca, .int .i64 p] w fun e w' => e = .returned (.bool (decide (Con p [x0, x1, x2, x3]))) ∧ Below w.heap.size w w' := by
  by_cases h0 : 0 ≤ x0
  · by_cases h1 : x0 < x1
    · by_cases h2 : x1 < p
      · by_cases h3 : 0 ≤ x2 ∧ x2 < 5
        · by_cases h4 : 0 ≤ x3 ∧ x3 < 2
          · have hr : Hid (decide (Con p [x0, x1, x2, x3]) = true) := by unfold Hid; rw [decide_eq_true_eq, con_iff]; omega
            have d0 : decide (0 ≤ x0) = true := decide_eq_true h0
            have d1 : decide (x0 < x1) = true := decide_eq_true h1
            have d2 : decide (x1 < p) = true := decide_eq_true h2
            have H3 := Lib.hid h3
            have H4 := Lib.hid h4
            clear h3 h4
            go_enter Tryd.func23, Tryd.ntmps23
            go_wp2_with fail
            go_quiet ((first | (go_at_call 27; exact quiet1 (isBelow_yes _ _ _ H3.out)) | (go_at_call 27; exact quiet1 (isBelow_yes _ _ _ H4.out))))
            go_wp2
            go_ret
            exact ⟨by rw [hr.out]; rfl, Bdrew (Below.refl _ _) _⟩
          · have hr : Hid (decide (Con p [x0, x1, x2, x3]) = false) := by unfold Hid; rw [decide_eq_false_iff_not, con_iff]; omega
            have d0 : decide (0 ≤ x0) = true := decide_eq_true h0
            have d1 : decide (x0 < x1) = true := decide_eq_true h1
            have d2 : decide (x1 < p) = true := decide_eq_true h2
            have H3 := Lib.hid h3
            have H4 := Lib.hid h4
            clear h3 h4
            go_enter Tryd.func23, Tryd.ntmps23
            go_wp2_with fail
            go_quiet ((first | (go_at_call 27; exact quiet1 (isBelow_yes _ _ _ H3.out)) | (go_at_call 27; exact quiet1 (isBelow_no _ _ _ H4.out))))
            go_wp2
            go_ret
            exact ⟨by rw [hr.out]; rfl, Bdrew (Below.refl _ _) _⟩
        · have hr : Hid (decide (Con p [x0, x1, x2, x3]) = false) := by unfold Hid; rw [decide_eq_false_iff_not, con_iff]; omega
          have d0 : decide (0 ≤ x0) = true := decide_eq_true h0
          have d1 : decide (x0 < x1) = true := decide_eq_true h1
          have d2 : decide (x1 < p) = true := decide_eq_true h2
          have H3 := Lib.hid h3
          clear h3
          go_enter Tryd.func23, Tryd.ntmps23
          go_wp2_with fail
          go_quiet ((first | (go_at_call 27; exact quiet1 (isBelow_no _ _ _ H3.out))))
          go_wp2
          go_ret
          exact ⟨by rw [hr.out]; rfl, Bdrew (Below.refl _ _) _⟩
      · have hr : Hid (decide (Con p [x0, x1, x2, x3]) = false) := by unfold Hid; rw [decide_eq_false_iff_not, con_iff]; omega
        have d0 : decide (0 ≤ x0) = true := decide_eq_true h0
        have d1 : decide (x0 < x1) = true := decide_eq_true h1
        have d2 : decide (x1 < p) = false := decide_eq_false h2
        go_enter Tryd.func23, Tryd.ntmps23
        go_wp2_with fail
        go_quiet (fail)
        go_wp2
        go_ret
        exact ⟨by rw [hr.out]; rfl, Bdrew (Below.refl _ _) _⟩
    · have hr : Hid (decide (Con p [x0, x1, x2, x3]) = false) := by unfold Hid; rw [decide_eq_false_iff_not, con_iff]; omega
      have d0 : decide (0 ≤ x0) = true := decide_eq_true h0
      have d1 : decide (x0 < x1) = false := decide_eq_false h1
      go_enter Tryd.func23, Tryd.ntmps23
      go_wp2_with fail
      go_quiet (fail)
      go_wp2
      go_ret
      exact ⟨by rw [hr.out]; rfl, Bdrew (Below.refl _ _) _⟩
  · have hr : Hid (decide (Con p [x0, x1, x2, x3]) = false) := by unfold Hid; rw [decide_eq_false_iff_not, con_iff]; omega
    have d0 : decide (0 ≤ x0) = false := decide_eq_false h0
    go_enter Tryd.func23, Tryd.ntmps23
    go_wp2_with fail
    go_quiet (fail)
    go_wp2
    go_ret
    exact ⟨by rw [hr.out]; rfl, Bdrew (Below.refl _ _) _⟩
set_option maxHeartbeats 1000000 in
theorem isContact_any (v : Value) (xs : List Int) (p : Int) (w : World) (h : Reads w v xs) :
    Calls Tryd.prog 23 #[v, .int .i64 p] w fun e w' => e = .returned (.bool (decide (Con p xs))) ∧ Below w.heap.size w w' := by
  obtain ⟨a, ca, rfl, hm, h⟩ := h
  unfold maxLen at hm
  by_cases hl : xs.length = 4
  · obtain ⟨x0, x1, x2, x3, rfl⟩ := list4 hl
    rcases h with h | ⟨b, off, rfl, h⟩
    · cases h
    · exact isContact_good b off ca x0 x1 x2 x3 p w (by simpa using h 0 (by simp)) (by simpa using h 1 (by simp)) (by simpa using h 2 (by simp)) (by simpa using h 3 (by simp))
  · have hr : decide (Con p xs) = false := decide_eq_false (fun hc => hl hc.1)
    rw [hr]
    exact isContact_bad a xs.length ca p w hl hm
theorem isContact_b (v : Value) (xs : List Int) (p : Int) (w : World) (h : Reads w v xs) {b : Bool} (hb : decide (Con p xs) = b) :
    Calls Tryd.prog 23 #[v, .int .i64 p] w fun e w' => e = .returned (.bool b) ∧ Below w.heap.size w w' := by
  have := isContact_any v xs p w h
  rwa [hb] at this

/-! ### two lists compared -/
theorem isNaN_any (x : Int) (w : World) : Calls Tryd.prog 30 #[.int .i64 x] w fun e w' => e = .returned (.bool false) ∧ w = w' := by
  go_enter Tryd.func30, Tryd.ntmps30
  go_wp2
  go_ret
  exact ⟨by simp, rfl⟩
/-- two numbers compared -/
def cmpZ (x y : Int) : Int := if x < y then -1 else if y < x then 1 else 0
theorem cmpZ_any (x y : Int) (w : World) : Calls Tryd.prog 28 #[.int .i64 x, .int .i64 y] w fun e w' => e = .returned (.int .i64 (cmpZ x y)) ∧ w = w' := by
  by_cases h1 : x < y
  · have hr : Hid (cmpZ x y = -1) := by unfold Hid cmpZ; rw [if_pos h1]
    go_enter Tryd.func28, Tryd.ntmps28
    go_wp2_with (go_at_call 30; (with_reducible refine (isNaN_any _ _).mono ?_); rintro e w' ⟨rfl, rfl⟩)
    go_ret
    exact ⟨by rw [hr.out]; rfl, rfl⟩
  · by_cases h2 : y < x
    · have hr : Hid (cmpZ x y = 1) := by unfold Hid cmpZ; rw [if_neg h1, if_pos h2]
      go_enter Tryd.func28, Tryd.ntmps28
      go_wp2_with (go_at_call 30; (with_reducible refine (isNaN_any _ _).mono ?_); rintro e w' ⟨rfl, rfl⟩)
      go_ret
      exact ⟨by rw [hr.out]; rfl, rfl⟩
    · have hr : Hid (cmpZ x y = 0) := by unfold Hid cmpZ; rw [if_neg h1, if_neg h2]
      go_enter Tryd.func28, Tryd.ntmps28
      go_wp2_with (go_at_call 30; (with_reducible refine (isNaN_any _ _).mono ?_); rintro e w' ⟨rfl, rfl⟩)
      go_ret
      exact ⟨by rw [hr.out]; rfl, rfl⟩

end Go.Proofs.YtglbndobbmgjmaaDoor
