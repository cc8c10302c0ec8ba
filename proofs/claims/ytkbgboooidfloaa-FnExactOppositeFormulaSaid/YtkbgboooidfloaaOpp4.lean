/- OppositeFormula and DualFormula: the program's and the model's. -/
import Derived.Test.YtkbgboooidfloaaSgn
import Derived.Test.YtkbgboooidfloaaRfA
namespace Go.Proofs.Ytkbgboooidfloaa
open Go.RowKit
set_option linter.unusedVariables false

def resOppositeFormula_0 (s : ByteArray) : ByteArray := if (fmOf s).isSome then mapS (fun c => swK oppC oppD c 16) s else ⟨#[]⟩
def resOppositeFormula_1 (s : ByteArray) : Int := if (fmOf s).isSome then 0 else 6
def resDualFormula_0 (s : ByteArray) : ByteArray := if (fmOf s).isSome then mapS (fun c => swK duaA duaB c 6) s else ⟨#[]⟩
def resDualFormula_1 (s : ByteArray) : Int := if (fmOf s).isSome then 0 else 6

theorem iIsFormula_b (s : ByteArray) (w : World) {b : Bool} (hb : (fmOf s).isSome = b) :
    Calls Try.prog 35 #[.string s] w fun e w' => e = .returned (.bool b) ∧ Below w.heap.size w w' := by
  have := iIsFormula_any' s w
  rwa [hb] at this

theorem iOppositeFormula_any (s : ByteArray) (hs : s.size ≤ 1048576) (w : World) :
    Calls Try.prog 12 #[.string s] w fun e w' => e = .returned (.tuple #[.string (resOppositeFormula_0 s), .int .i64 (resOppositeFormula_1 s)]) ∧ Below w.heap.size w w' := by
  cases hb : (fmOf s).isSome
  · have HR : Hid (resOppositeFormula_0 s = ⟨#[]⟩ ∧ resOppositeFormula_1 s = 6) := by unfold Hid resOppositeFormula_0 resOppositeFormula_1; rw [hb]; exact ⟨rfl, rfl⟩
    have HI := Lib.hid (iIsFormula_b s · hb)
    clear hb
    go_enter Try.func12, Try.ntmps12
    go_wp2_with (go_at_call 35; refine (HI.out _).mono ?_; rintro e w' ⟨rfl, hL⟩)
    go_ret2
    exact ⟨by rw [HR.out.1, HR.out.2]; rfl, hL⟩
  · have HR : Hid (resOppositeFormula_0 s = mapS (sw1 oppA oppB) s ∧ resOppositeFormula_1 s = 0) := by unfold Hid resOppositeFormula_0 resOppositeFormula_1; rw [hb]; exact ⟨(mapS_congr s opp_same).symm, rfl⟩
    have HI := Lib.hid (iIsFormula_b s · hb)
    have HW := Lib.hid (fun w => withSigns_any s oppA oppB hs rfl (by decide) w)
    clear hb
    go_enter Try.func12, Try.ntmps12
    go_wp2_with (first | (go_at_call 35; refine (HI.out _).mono ?_; rintro e w1 ⟨rfl, hL⟩) | (go_at_call 36; refine (HW.out _).mono ?_; rintro e w2 ⟨rfl, hb⟩; have hL := chain hL (Nat.le_refl _) hb; clear hb))
    go_ret2
    exact ⟨by rw [HR.out.1, HR.out.2]; rfl, hL⟩

theorem iDualFormula_any (s : ByteArray) (hs : s.size ≤ 1048576) (w : World) :
    Calls Try.prog 14 #[.string s] w fun e w' => e = .returned (.tuple #[.string (resDualFormula_0 s), .int .i64 (resDualFormula_1 s)]) ∧ Below w.heap.size w w' := by
  cases hb : (fmOf s).isSome
  · have HR : Hid (resDualFormula_0 s = ⟨#[]⟩ ∧ resDualFormula_1 s = 6) := by unfold Hid resDualFormula_0 resDualFormula_1; rw [hb]; exact ⟨rfl, rfl⟩
    have HI := Lib.hid (iIsFormula_b s · hb)
    clear hb
    go_enter Try.func14, Try.ntmps14
    go_wp2_with (go_at_call 35; refine (HI.out _).mono ?_; rintro e w' ⟨rfl, hL⟩)
    go_ret2
    exact ⟨by rw [HR.out.1, HR.out.2]; rfl, hL⟩
  · have HR : Hid (resDualFormula_0 s = mapS (sw1 duaA duaB) s ∧ resDualFormula_1 s = 0) := by unfold Hid resDualFormula_0 resDualFormula_1; rw [hb]; exact ⟨(mapS_congr s dua_same).symm, rfl⟩
    have HI := Lib.hid (iIsFormula_b s · hb)
    have HW := Lib.hid (fun w => withSigns_any s duaA duaB hs rfl (by decide) w)
    clear hb
    go_enter Try.func14, Try.ntmps14
    go_wp2_with (first | (go_at_call 35; refine (HI.out _).mono ?_; rintro e w1 ⟨rfl, hL⟩) | (go_at_call 36; refine (HW.out _).mono ?_; rintro e w2 ⟨rfl, hb⟩; have hL := chain hL (Nat.le_refl _) hb; clear hb))
    go_ret2
    exact ⟨by rw [HR.out.1, HR.out.2]; rfl, hL⟩

theorem sOppositeFormula_any (s : ByteArray) (hs : s.size ≤ 1048576) (w : World) :
    Calls Try.prog 11 #[.string s] w fun e w' => e = .returned (.tuple #[.string (resOppositeFormula_0 s), .int .i64 (resOppositeFormula_1 s)]) ∧ Below w.heap.size w w' := by
  cases hb : (fmOf s).isSome
  · have HR : Hid (resOppositeFormula_0 s = ⟨#[]⟩ ∧ resOppositeFormula_1 s = 6) := by unfold Hid resOppositeFormula_0 resOppositeFormula_1; rw [hb]; exact ⟨rfl, rfl⟩
    have HI := Lib.hid (fun w => l04Is_any s w hs hb)
    clear hb
    go_enter Try.func11, Try.ntmps11
    go_wp2_with (go_at_call 33; refine (HI.out _).mono ?_; rintro e w' ⟨rfl, rfl⟩)
    go_ret2
    exact ⟨by rw [HR.out.1, HR.out.2]; rfl, Below.refl _ _⟩
  · have HR : Hid (resOppositeFormula_0 s = mapS (fun c => swK oppC oppD c oppC.size) s ∧ resOppositeFormula_1 s = 0) := by unfold Hid resOppositeFormula_0 resOppositeFormula_1; rw [hb]; exact ⟨rfl, rfl⟩
    have HI := Lib.hid (fun w => l04Is_any s w hs hb)
    have HW := Lib.hid (fun w => l04Exchange_any s oppC oppD hs rfl (by decide) w)
    clear hb
    go_enter Try.func11, Try.ntmps11
    go_wp2_with (first | (go_at_call 33; refine (HI.out _).mono ?_; rintro e w1 ⟨rfl, rfl⟩) | (go_at_call 34; refine (HW.out _).mono ?_; rintro e w2 ⟨rfl, hL⟩))
    go_ret2
    exact ⟨by rw [HR.out.1, HR.out.2]; rfl, hL⟩

theorem sDualFormula_any (s : ByteArray) (hs : s.size ≤ 1048576) (w : World) :
    Calls Try.prog 13 #[.string s] w fun e w' => e = .returned (.tuple #[.string (resDualFormula_0 s), .int .i64 (resDualFormula_1 s)]) ∧ Below w.heap.size w w' := by
  cases hb : (fmOf s).isSome
  · have HR : Hid (resDualFormula_0 s = ⟨#[]⟩ ∧ resDualFormula_1 s = 6) := by unfold Hid resDualFormula_0 resDualFormula_1; rw [hb]; exact ⟨rfl, rfl⟩
    have HI := Lib.hid (fun w => l04Is_any s w hs hb)
    clear hb
    go_enter Try.func13, Try.ntmps13
    go_wp2_with (go_at_call 33; refine (HI.out _).mono ?_; rintro e w' ⟨rfl, rfl⟩)
    go_ret2
    exact ⟨by rw [HR.out.1, HR.out.2]; rfl, Below.refl _ _⟩
  · have HR : Hid (resDualFormula_0 s = mapS (fun c => swK duaA duaB c duaA.size) s ∧ resDualFormula_1 s = 0) := by unfold Hid resDualFormula_0 resDualFormula_1; rw [hb]; exact ⟨rfl, rfl⟩
    have HI := Lib.hid (fun w => l04Is_any s w hs hb)
    have HW := Lib.hid (fun w => l04Exchange_any s duaA duaB hs rfl (by decide) w)
    clear hb
    go_enter Try.func13, Try.ntmps13
    go_wp2_with (first | (go_at_call 33; refine (HI.out _).mono ?_; rintro e w1 ⟨rfl, rfl⟩) | (go_at_call 34; refine (HW.out _).mono ?_; rintro e w2 ⟨rfl, hL⟩))
    go_ret2
    exact ⟨by rw [HR.out.1, HR.out.2]; rfl, hL⟩

end Go.Proofs.Ytkbgboooidfloaa
