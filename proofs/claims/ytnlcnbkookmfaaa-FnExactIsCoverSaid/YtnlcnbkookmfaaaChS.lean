/- IsChart: by its result. -/
import Derived.Test.YtnlcnbkookmfaaaChJ
namespace Go.Proofs.Ytnlcnbkookmfaaa
open Go.RowKit
set_option linter.unusedVariables false

def resIsChart_0 (p : Int) (xss yss : List (List Int)) : Bool := chaB p xss yss
theorem iIsChart_any (v : Value) (p : Int) (xss yss : List (List Int)) (w : World) (ha : ReadsH w v p xss yss) :
    Calls Try.prog 18 #[v] w fun e w' => e = .returned (.bool (resIsChart_0 p xss yss)) ∧ Below w.heap.size w w' := isChart_any v p xss yss w ha rfl
theorem sIsChart_any (v : Value) (p : Int) (xss yss : List (List Int)) (w : World) (ha : ReadsH w v p xss yss) :
    Calls Try.prog 16 #[v] w fun e w' => e = .returned (.bool (resIsChart_0 p xss yss)) ∧ Below w.heap.size w w' := by
  have HC := Lib.hid (fun w' (h : Below w.heap.size w w') => l07Is_any v p xss yss w' (ha.keep h) (b := resIsChart_0 p xss yss) rfl)
  obtain ⟨a, ca, b', cb, rfl, _, _⟩ := ha
  generalize resIsChart_0 p xss yss = b at *
  generalize xss.length = n at *
  generalize yss.length = m at *
  go_enter Try.func16, Try.ntmps16
  go_wp2_with fail
  refine (HC.out _ (by go_grown)).mono ?_
  rintro e w1 ⟨rfl, hb⟩
  have hL := chain (B := w.heap.size) (a := w) (by go_grown) (Nat.le_refl _) hb
  clear hb
  go_wp2_with fail
  go_ret
  exact ⟨rfl, hL⟩

end Go.Proofs.Ytnlcnbkookmfaaa
