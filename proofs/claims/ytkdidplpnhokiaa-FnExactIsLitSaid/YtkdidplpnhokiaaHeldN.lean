/- A network of the call's own looked at again. -/
import Derived.Test.YtkdidplpnhokiaaHeld2
import Derived.Test.YtkdidplpnhokiaaNetX
import Derived.Test.YtkdidplpnhokiaaIn
namespace Go.Proofs.Ytkdidplpnhokiaa
open Go.RowKit
set_option linter.unusedVariables false

theorem heldNetwork_any (p : Int) (v : Value) (xss : List (List Int)) (q : Int) (w : World) (h : Reads2 w v (rowsK q xss xss.length)) (hs : ∀ i, i < xss.length → (xss.getD i []).length ≤ 1048576) (q0 : 0 ≤ q) (hq : q + (xss.length + sumLen xss xss.length : Nat) ≤ 1048577) :
    Calls Try.prog 54 #[.agg #[.int .i64 p, v], .int .i64 q] w fun e w' => e = .returned (.int .i64 (q + (sumLen xss xss.length : Nat))) ∧ Below w.heap.size w w' := by
  have HM : Hid (∀ w', Reads2 w' v (rowsK q xss xss.length) → Calls Try.prog 71 #[v, .int .i64 q] w' fun e w'' => e = .returned (.int .i64 (q + (sumLen xss xss.length : Nat))) ∧ Below w'.heap.size w' w'') := fun w' h => heldInt64SS_any v xss q w' h hs q0 hq
  have HO := Lib.hid (h.keep ((Below.refl _ _).alloc (Nat.le_refl _) (.cells #[.int .i64 p, v] 61)))
  have hr : ¬ q + ((sumLen xss xss.length : Nat) : Int) < 0 := by omega
  obtain ⟨a, ca, rfl, _, _⟩ := h
  clear hs hq q0
  generalize q + ((sumLen xss xss.length : Nat) : Int) = r at *
  go_enter Try.func54, Try.ntmps54
  go_wp2_with fail
  refine (HM.out _ HO.out).mono ?_
  rintro e w2 ⟨rfl, hb⟩
  have hL := chain (B := w.heap.size) (a := w) (by go_grown) (Nat.le_refl _) hb
  clear hb
  go_wp2_with fail
  go_ret
  exact ⟨rfl, hL⟩

end Go.Proofs.Ytkdidplpnhokiaa
