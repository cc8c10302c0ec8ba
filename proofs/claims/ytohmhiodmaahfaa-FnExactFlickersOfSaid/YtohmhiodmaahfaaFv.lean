/- FormulaValue: both contracts. -/
import Derived.Test.YtohmhiodmaahfaaFvS
import Derived.Test.YtohmhiodmaahfaaFvI
import Derived.Test.YtohmhiodmaahfaaRfA
namespace Go.Proofs.Ytohmhiodmaahfaa
open Go.RowKit
set_option linter.unusedVariables false

theorem fm_some {s : ByteArray} {t : Fm} (h : fmOf s = some t) : wfF t ∧ s = txtS t ∧ (txtF t).length ≤ 80 := by
  unfold fmOf at h
  split at h
  · obtain ⟨h1, h2, h3⟩ := wholeF_iff.1 h
    exact ⟨h1, txtS_eq h1 h2 h3, by omega⟩
  · cases h

def resFormulaValue_0 (s : ByteArray) (x : Int) : Int := match fmOf s with | some t => if 0 ≤ x ∧ x ≤ 31 then b2i (valF (leafV (digZ x)) t) else 0 | none => 0
def resFormulaValue_1 (s : ByteArray) (x : Int) : Int := match fmOf s with | some _ => if 0 ≤ x ∧ x ≤ 31 then 0 else 2 | none => 6
theorem resFv_none {s : ByteArray} (h : fmOf s = none) (x : Int) : resFormulaValue_0 s x = 0 ∧ resFormulaValue_1 s x = 6 := by
  unfold resFormulaValue_0 resFormulaValue_1; rw [h]; exact ⟨rfl, rfl⟩
theorem resFv_out {s : ByteArray} {t : Fm} (h : fmOf s = some t) {x : Int} (hx : ¬ (0 ≤ x ∧ x ≤ 31)) : resFormulaValue_0 s x = 0 ∧ resFormulaValue_1 s x = 2 := by
  unfold resFormulaValue_0 resFormulaValue_1; rw [h]; exact ⟨if_neg hx, if_neg hx⟩
theorem resFv_in {s : ByteArray} {t : Fm} (h : fmOf s = some t) {x : Int} (hx : 0 ≤ x ∧ x ≤ 31) : resFormulaValue_0 s x = b2i (valF (leafV (digZ x)) t) ∧ resFormulaValue_1 s x = 0 := by
  unfold resFormulaValue_0 resFormulaValue_1; rw [h]; exact ⟨if_pos hx, if_pos hx⟩

theorem rowCount5 (w : World) : Calls Try.prog 42 #[.int .i64 5] w fun e w' => e = .returned (.int .i64 32) ∧ w = w' := rowCount_any 5 w (by decide) (by decide)

set_option maxRecDepth 100000 in
set_option maxHeartbeats 1000000 in
theorem iFormulaValue_any (s : ByteArray) (hs : s.size ≤ 1048576) (x : Int) (w : World) :
    Calls Try.prog 21 #[.string s, .int .i64 x] w fun e w' => e = .returned (.tuple #[.int .i64 (resFormulaValue_0 s x), .int .i64 (resFormulaValue_1 s x)]) ∧ Below w.heap.size w w' := by
  cases hR : fmOf s with
  | none =>
    have HV := Lib.hid (resFv_none hR x)
    have HC := Lib.hid (fun w => readFormula_any s w hR)
    clear hR
    go_enter Try.func21, Try.ntmps21
    go_wp2_with (go_at_call 33; (with_reducible refine (HC.out _).mono ?_); rintro e w1 ⟨c, a0, n0, cap0, b, rfl, rfl, hh, hL⟩; clear hh; have hz := hL.size)
    go_ret2
    exact ⟨by rw [HV.out.1, HV.out.2]; rfl, by go_grown⟩
  | some t =>
    obtain ⟨hw, rfl, h80⟩ := fm_some hR
    have HC := Lib.hid (fun w => readFormula_any (txtS t) w hR)
    by_cases hx : 0 ≤ x ∧ x ≤ 31
    · have HV := Lib.hid (resFv_in hR hx)
      have HX : Hid (0 ≤ x ∧ x < 32) := ⟨hx.1, by omega⟩
      have HF := Lib.hid (fun (w : World) (B : Nat) (v : Value) (bs : List Nat) (hh : Hold w B v t.members bs) => formulaValue_one x hx.1 hx.2 (txtF t).length t w B v bs hw (Nat.le_refl _) (by omega) hh)
      clear hR hx hs
      go_enter Try.func21, Try.ntmps21
      go_wp2_with fail
      refine (HC.out _).mono ?_
      rintro e w1 ⟨c, a0, n0, cap0, b, rfl, rfl, hh, hL⟩
      obtain ⟨rfl, rfl, bt, hh⟩ := hh t rfl
      have HH := Lib.hid (hh.keep ((Below.refl _ _).alloc (Nat.le_refl _) (.cells #[.int .u8 t.sign, .slice a0 t.members.length cap0] 46)))
      have hz := hL.size
      clear hh
      go_wp2_with (first | (go_at_call 42; (with_reducible refine (rowCount5 _).mono ?_); rintro e w' ⟨rfl, rfl⟩) | (go_at_call 41; (with_reducible refine (isBelow_yes _ _ _ HX.out).mono ?_); rintro e w' ⟨rfl, rfl⟩) | (go_at_call 43; (with_reducible refine (HF.out _ _ _ bt HH.out).mono ?_); rintro e w2 ⟨rfl, hb⟩; have hL := chain (B := w.heap.size) (a := w) (by go_grown) (Nat.le_refl _) hb))
      go_ret2
      exact ⟨by rw [HV.out.1, HV.out.2]; rfl, hL⟩
    · have HV := Lib.hid (resFv_out hR hx)
      have HX : Hid (¬ (0 ≤ x ∧ x < 32)) := fun h => hx ⟨h.1, by omega⟩
      clear hR hx hs
      go_enter Try.func21, Try.ntmps21
      go_wp2_with fail
      refine (HC.out _).mono ?_
      rintro e w1 ⟨c, a0, n0, cap0, b, rfl, rfl, hh, hL⟩
      clear hh
      have hz := hL.size
      go_wp2_with (first | (go_at_call 42; (with_reducible refine (rowCount5 _).mono ?_); rintro e w' ⟨rfl, rfl⟩) | (go_at_call 41; (with_reducible refine (isBelow_no _ _ _ HX.out).mono ?_); rintro e w' ⟨rfl, rfl⟩))
      go_ret2
      exact ⟨by rw [HV.out.1, HV.out.2]; rfl, by go_grown⟩

set_option maxRecDepth 100000 in
set_option maxHeartbeats 1000000 in
theorem sFormulaValue_any (s : ByteArray) (hs : s.size ≤ 1048576) (x : Int) (w : World) :
    Calls Try.prog 20 #[.string s, .int .i64 x] w fun e w' => e = .returned (.tuple #[.int .i64 (resFormulaValue_0 s x), .int .i64 (resFormulaValue_1 s x)]) ∧ Below w.heap.size w w' := by
  cases hR : fmOf s with
  | none =>
    have HV := Lib.hid (resFv_none hR x)
    have HI := Lib.hid (fun w => l04Is_any s w hs (b := false) (by rw [hR]; rfl))
    clear hR
    go_enter Try.func20, Try.ntmps20
    go_wp2_with (go_at_call 29; refine (HI.out _).mono ?_; rintro e w' ⟨rfl, rfl⟩)
    go_ret2
    exact ⟨by rw [HV.out.1, HV.out.2]; rfl, Below.refl _ _⟩
  | some t =>
    obtain ⟨hw, rfl, h80⟩ := fm_some hR
    have HI := Lib.hid (fun w => l04Is_any (txtS t) w hs (b := true) (by rw [hR]; rfl))
    by_cases hx : 0 ≤ x ∧ x ≤ 31
    · have HV := Lib.hid (resFv_in hR hx)
      have HX := Lib.hid hx
      have HF := Lib.hid (fun w => l04Value_any x hx.1 hx.2 (txtF t).length t w hw (Nat.le_refl _) (by omega))
      clear hR hx
      cases hv : valF (leafV (digZ x)) t
      all_goals
        rw [hv] at HF HV
        clear hv
        go_enter Try.func20, Try.ntmps20
        go_wp2_with (first | (go_at_call 29; refine (HI.out _).mono ?_; rintro e w' ⟨rfl, rfl⟩) | (go_at_call 30; (with_reducible refine (l01In_yes _ _ _ _ HX.out).mono ?_); rintro e w' ⟨rfl, rfl⟩) | (go_at_call 40; refine (HF.out _).mono ?_; rintro e w' ⟨rfl, hL⟩))
        go_ret2
        exact ⟨by rw [HV.out.1, HV.out.2]; rfl, hL⟩
    · have HV := Lib.hid (resFv_out hR hx)
      have HX := Lib.hid hx
      clear hR hx
      go_enter Try.func20, Try.ntmps20
      go_wp2_with (first | (go_at_call 29; refine (HI.out _).mono ?_; rintro e w' ⟨rfl, rfl⟩) | (go_at_call 30; (with_reducible refine (l01In_no _ _ _ _ HX.out).mono ?_); rintro e w' ⟨rfl, rfl⟩))
      go_ret2
      exact ⟨by rw [HV.out.1, HV.out.2]; rfl, Below.refl _ _⟩

end Go.Proofs.Ytohmhiodmaahfaa
