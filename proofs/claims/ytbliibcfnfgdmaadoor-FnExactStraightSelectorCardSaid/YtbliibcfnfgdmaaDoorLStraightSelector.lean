/- The walk of FnExactStraightSelector. -/
import Derived.Test.YtbliibcfnfgdmaaDoorSts
import Derived.Test.YtbliibcfnfgdmaaDoorLkL
import Derived.Test.YtbliibcfnfgdmaaDoorTool
namespace Go.Proofs.YtbliibcfnfgdmaaDoor
open Go.RowKit
set_option linter.unusedVariables false

set_option maxRecDepth 100000 in
set_option maxHeartbeats 8000000 in
theorem walkFnExactStraightSelector (x0 : Int) (wx0 : (Lit.int .i64 x0).wf = true) (w : World)  :
    Calls Tryd.prog 3 #[.int .i64 x0] w fun e w' => e = .returned (.bool true) ∧ Below w.heap.size w w' := by
  have hL0 : Below w.heap.size w w := Below.refl _ _
  obtain ⟨c0, hr_c0⟩ : ∃ x : ByteArray, resStraightSelector_0 x0 = x := ⟨_, rfl⟩
  obtain ⟨c1, hr_c1⟩ : ∃ x : Int, resStraightSelector_1 x0 = x := ⟨_, rfl⟩
  have D1 : Hid (∀ (w : World), Calls Tryd.prog 6 #[.int .i64 x0] w fun e w' => e = .returned (.tuple #[.string c0, .int .i64 c1]) ∧ Below w.heap.size w w') := fun  w  => by subst hr_c0 hr_c1; exact iStraightSelector_any x0 w 
  have D2 : Hid (∀ (w : World), Calls Tryd.prog 5 #[.int .i64 x0] w fun e w' => e = .returned (.tuple #[.string c0, .int .i64 c1]) ∧ Below w.heap.size w w') := fun  w  => by subst hr_c0 hr_c1; exact sStraightSelector_any x0 w 
  clear hr_c0 hr_c1
  have hL := hL0
  clear hL0
  obtain ⟨H0, hH0, hc⟩ : ∃ H, w.heap.size + 0 ≤ H ∧ H ≤ w.heap.size + 0 := ⟨_, Nat.le_refl _, Nat.le_refl _⟩
  have hHU0 := hc
  go_enter Tryd.func3, Tryd.ntmps3
  go_wp2_with fail
  refine (D2.out  _ ).mono ?_
  rintro e w1_ ⟨rfl, hb⟩
  have hx := chain (B := w.heap.size) (a := w) (by go_grown) (Nat.le_refl _) hb
  have hs := hb.size
  (repeat (first | rw [World.size_alloc] at hs | rw [World.size_drew] at hs))
  replace hL := chain (B := w.heap.size) (a := w) hL (by first | exact Nat.le_refl _ | simp) hx
  replace hc : H0 ≤ w1_.heap.size := by omega
  clear hx hs hb
  obtain ⟨H1, hH1, hcn⟩ : ∃ H, w1_.heap.size ≤ H ∧ H ≤ w1_.heap.size := ⟨_, Nat.le_refl _, Nat.le_refl _⟩
  have hHH1 : H0 ≤ H1 := by omega
  have hHU1 := hcn
  clear hc
  have hc := hcn
  clear hcn
  go_wp2_with fail
  refine (D1.out  _ ).mono ?_
  rintro e w2_ ⟨rfl, hb⟩
  have hx := chain (B := w1_.heap.size) (a := w1_) (by go_grown) (Nat.le_refl _) hb
  have hs := hb.size
  (repeat (first | rw [World.size_alloc] at hs | rw [World.size_drew] at hs))
  replace hL := chain (B := w.heap.size) (a := w) hL (by first | exact Nat.le_refl _ | simp) hx
  replace hc : H1 ≤ w2_.heap.size := by omega
  clear hx hs hb
  go_wp2_with fail
  go_ret
  exact ⟨rfl, by first | assumption | go_grown⟩

end Go.Proofs.YtbliibcfnfgdmaaDoor
