/- IsWiring: by its result. -/
import Derived.Test.YtkdidplpnhokiaaWiS
namespace Go.Proofs.Ytkdidplpnhokiaa
open Go.RowKit
set_option linter.unusedVariables false

def resIsWiring_0 (p : Int) (xs : List Int) (yss : List (List Int)) : Bool := wirB p xs yss
theorem iIsWiring_any (v : Value) (p : Int) (xs : List Int) (yss : List (List Int)) (w : World) (ha : ReadsW w v p xs yss) :
    Calls Try.prog 18 #[v] w fun e w' => e = .returned (.bool (resIsWiring_0 p xs yss)) ∧ Below w.heap.size w w' := isWiring_any v p xs yss w ha rfl
theorem sIsWiring_any (v : Value) (p : Int) (xs : List Int) (yss : List (List Int)) (w : World) (ha : ReadsW w v p xs yss) :
    Calls Try.prog 16 #[v] w fun e w' => e = .returned (.bool (resIsWiring_0 p xs yss)) ∧ Below w.heap.size w w' := by
  have HC := Lib.hid (fun w' (h : Below w.heap.size w w') => l10Is_any v p xs yss w' (ha.keep h) (bb := resIsWiring_0 p xs yss) rfl)
  obtain ⟨a, ca, b', cb, rfl, _, _⟩ := ha
  generalize resIsWiring_0 p xs yss = b at *
  generalize xs.length = n at *
  generalize yss.length = m at *
  go_enter Try.func16, Try.ntmps16
  go_wp2_with fail
  refine (HC.out _ (by go_grown)).mono ?_
  rintro e w1 ⟨rfl, hb⟩
  have hL := chain (B := w.heap.size) (a := w) (by go_grown) (Nat.le_refl _) hb
  clear hb
  go_wp2_with fail
  go_ret
  exact ⟨rfl, hL⟩

end Go.Proofs.Ytkdidplpnhokiaa
