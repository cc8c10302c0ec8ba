/- l04Is: whether a text is a formula: the model's. -/
import Derived.Test.YtohmhiodmaahfaaDoorFmE
import Derived.Test.YtohmhiodmaahfaaDoorFmT
namespace Go.Proofs.YtohmhiodmaahfaaDoor
open Go.RowKit
set_option linter.unusedVariables false

/-- the formula that a text is -/
def fmOf (s : ByteArray) : Option Fm := if s.size ≤ 80 then wholeF (byteAt s) s.size else none
theorem fmOf_cases (s : ByteArray) : (80 < s.size ∧ fmOf s = none) ∨ (s.size ≤ 80 ∧ endZ s none 0 ≠ (s.size : Int) ∧ fmOf s = none) ∨ (s.size ≤ 80 ∧ 0 < s.size ∧ endZ s none 0 = (s.size : Int) ∧ ∃ t, fmOf s = some t) := by
  unfold fmOf
  by_cases h : s.size ≤ 80
  · rw [if_pos h, wholeF_eq]
    cases hr : rdF (byteAt s) s.size none 0 with
    | none => exact .inr (.inl ⟨h, by rw [endZ_none hr]; omega, rfl⟩)
    | some r =>
      obtain ⟨t, e⟩ := r
      have ha := rdF_adv _ _ _ _ _ _ hr
      by_cases he : e = s.size
      · refine .inr (.inr ⟨h, by omega, by rw [endZ_some hr, he], t, ?_⟩)
        simp only; rw [if_pos he]
      · refine .inr (.inl ⟨h, by rw [endZ_some hr]; omega, ?_⟩)
        simp only; rw [if_neg he]
  · exact .inl ⟨by omega, by rw [if_neg h]⟩

set_option maxRecDepth 100000 in
theorem l04Is_any (s : ByteArray) (w : World) (hs : s.size ≤ 1048576) {b : Bool} (hb : (fmOf s).isSome = b) :
    Calls Tryd.prog 28 #[.string s] w fun e w' => e = .returned (.bool b) ∧ w = w' := by
  have HE := Lib.hid (l04End_any s hs s.size 0 w (by omega) (Nat.zero_le _))
  obtain ⟨z, hz⟩ : ∃ z, endZ s none 0 = z := ⟨_, rfl⟩
  rw [hz] at HE
  rcases fmOf_cases s with ⟨h1, h2⟩ | ⟨h1, h2, h3⟩ | ⟨h1, h2, h3, t, h4⟩
  · have e : b = false := by rw [← hb, h2]; rfl
    subst e
    have h80 : ¬ (s.size : Int) ≤ 80 := by omega
    clear hb h2 hz HE
    go_enter Tryd.func28, Tryd.ntmps28
    go_wp2
    go_ret
    exact ⟨rfl, rfl⟩
  · have e : b = false := by rw [← hb, h3]; rfl
    subst e
    have h80 : (s.size : Int) ≤ 80 := by omega
    rw [hz] at h2
    have hne : (z == (s.size : Int)) = false := by simpa using h2
    clear hb h3 hz h2
    go_enter Tryd.func28, Tryd.ntmps28
    go_wp2_with (go_at_call 60; refine HE.out.mono ?_; rintro e w' ⟨rfl, rfl⟩)
    go_ret
    exact ⟨rfl, rfl⟩
  · have e : b = true := by rw [← hb, h4]; rfl
    subst e
    have h80 : (s.size : Int) ≤ 80 := by omega
    have h0 : (0 : Int) < (s.size : Int) := by omega
    rw [hz] at h3
    have hne : (z == (s.size : Int)) = true := by simpa using h3
    clear hb h4 hz h3
    go_enter Tryd.func28, Tryd.ntmps28
    go_wp2_with (go_at_call 60; refine HE.out.mono ?_; rintro e w' ⟨rfl, rfl⟩)
    go_ret
    exact ⟨rfl, rfl⟩


end Go.Proofs.YtohmhiodmaahfaaDoor
