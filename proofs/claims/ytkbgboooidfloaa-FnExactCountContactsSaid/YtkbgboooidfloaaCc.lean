/- CountContacts: both contracts. -/
import Derived.Test.YtkbgboooidfloaaLtr
import Derived.Test.YtkbgboooidfloaaRfA
namespace Go.Proofs.Ytkbgboooidfloaa
open Go.RowKit
set_option linter.unusedVariables false

def resCountContacts_0 (s : ByteArray) : Int := if (fmOf s).isSome then ((lets s s.size).length : Int) else 0
def resCountContacts_1 (s : ByteArray) : Int := if (fmOf s).isSome then 0 else 6
theorem resCc (s : ByteArray) {b : Bool} (hb : (fmOf s).isSome = b) : resCountContacts_0 s = (if b then ((lets s s.size).length : Int) else 0) ∧ resCountContacts_1 s = if b then 0 else 6 := by
  unfold resCountContacts_0 resCountContacts_1; rw [hb]; exact ⟨rfl, rfl⟩
theorem isFormula_b (s : ByteArray) (w : World) {b : Bool} (hb : (fmOf s).isSome = b) :
    Calls Try.prog 35 #[.string s] w fun e w' => e = .returned (.bool b) ∧ Below w.heap.size w w' := by
  have := iIsFormula_any' s w
  rwa [hb] at this

theorem iCountContacts_any (s : ByteArray) (hs : s.size ≤ 1048576) (w : World) :
    Calls Try.prog 16 #[.string s] w fun e w' => e = .returned (.tuple #[.int .i64 (resCountContacts_0 s), .int .i64 (resCountContacts_1 s)]) ∧ Below w.heap.size w w' := by
  cases hb : (fmOf s).isSome
  all_goals
    have HR := Lib.hid (resCc s hb)
    have HI := Lib.hid (isFormula_b s · hb)
    have HW := Lib.hid (fun w => lettersOf_any s w hs)
    clear hb
    go_enter Try.func16, Try.ntmps16
    go_wp2_with (first | (go_at_call 35; (with_reducible refine (HI.out _).mono ?_); rintro e w1 ⟨rfl, hL⟩) | (go_at_call 38; (with_reducible refine (HW.out _).mono ?_); rintro e w2 ⟨cap, rfl, _, hb⟩; have hL := chain hL (Nat.le_refl _) hb; clear hb))
    go_ret2
    exact ⟨by rw [HR.out.1, HR.out.2]; rfl, hL⟩

theorem sCountContacts_any (s : ByteArray) (hs : s.size ≤ 1048576) (w : World) :
    Calls Try.prog 15 #[.string s] w fun e w' => e = .returned (.tuple #[.int .i64 (resCountContacts_0 s), .int .i64 (resCountContacts_1 s)]) ∧ Below w.heap.size w w' := by
  cases hb : (fmOf s).isSome
  all_goals
    have HR := Lib.hid (resCc s hb)
    have HI := Lib.hid (fun w => l04Is_any s w hs hb)
    have HW := Lib.hid (fun w => l04Count_any s w hs)
    clear hb
    go_enter Try.func15, Try.ntmps15
    go_wp2_with (first | (go_at_call 33; (with_reducible refine (HI.out _).mono ?_); rintro e w1 ⟨rfl, rfl⟩) | (go_at_call 37; (with_reducible refine (HW.out _).mono ?_); rintro e w2 ⟨rfl, rfl⟩))
    go_ret2
    exact ⟨by rw [HR.out.1, HR.out.2]; rfl, Below.refl _ _⟩

end Go.Proofs.Ytkbgboooidfloaa
