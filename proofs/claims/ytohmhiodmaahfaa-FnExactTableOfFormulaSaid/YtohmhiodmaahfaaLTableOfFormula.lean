/- The walk of FnExactTableOfFormula. -/
import Derived.Test.YtohmhiodmaahfaaTvS
import Derived.Test.YtohmhiodmaahfaaTvI
import Derived.Test.YtohmhiodmaahfaaTool
namespace Go.Proofs.Ytohmhiodmaahfaa
open Go.RowKit
set_option linter.unusedVariables false

set_option maxRecDepth 100000 in
set_option maxHeartbeats 8000000 in
theorem walkFnExactTableOfFormula (s0 : ByteArray) (hs0 : s0.size ≤ maxLen) (x1 : Int) (wx1 : (Lit.int .i64 x1).wf = true) (w : World)  :
    Calls Try.prog 8 #[.string s0, .int .i64 x1] w fun e w' => e = .returned (.bool true) ∧ Below w.heap.size w w' := by
  by_cases hbig0 : (1048576 : Int) < (s0.size : Int)
  · skip
    go_enter Try.func8, Try.ntmps8
    go_wp2_with (fail)
    go_ret
    exact ⟨rfl, by first | exact Below.refl _ _ | go_grown⟩
  · have hlen0 : Hid ((s0.size : Int) ≤ 1048576) := by unfold Hid; omega
    have hsz0 : s0.size ≤ 1048576 := by omega
    have hL0 : Below w.heap.size w w := Below.refl _ _
    obtain ⟨rn0, hr_rn0⟩ : ∃ x : Int, resTableOfFormula_0n s0 x1 = x := ⟨_, rfl⟩
    obtain ⟨rm0, hr_rm0⟩ : ∃ x : Int, resTableOfFormula_0m s0 x1 = x := ⟨_, rfl⟩
    obtain ⟨c1, hr_c1⟩ : ∃ x : Int, resTableOfFormula_1 s0 x1 = x := ⟨_, rfl⟩
    have D1 : Hid (∀ (w : World), Calls Try.prog 23 #[.string s0, .int .i64 x1] w fun e w' => e = .returned (.tuple #[.agg #[.int .i64 rn0, .int .i64 rm0], .int .i64 c1]) ∧ Below w.heap.size w w') := fun  w  => by subst hr_rn0 hr_rm0 hr_c1; exact iTableOfFormula_any s0 hsz0 x1 w 
    have D2 : Hid (∀ (w : World), Calls Try.prog 22 #[.string s0, .int .i64 x1] w fun e w' => e = .returned (.tuple #[.agg #[.int .i64 rn0, .int .i64 rm0], .int .i64 c1]) ∧ Below w.heap.size w w') := fun  w  => by subst hr_rn0 hr_rm0 hr_c1; exact sTableOfFormula_any s0 hsz0 x1 w 
    clear hr_rn0 hr_rm0 hr_c1
    have hL := hL0
    clear hL0
    obtain ⟨H0, hH0, hc⟩ : ∃ H, w.heap.size + 0 ≤ H ∧ H ≤ w.heap.size + 0 := ⟨_, Nat.le_refl _, Nat.le_refl _⟩
    have hHU0 := hc
    go_enter Try.func8, Try.ntmps8
    go_wp2_with fail
    refine (D2.out  _ ).mono ?_
    rintro e w1_ ⟨rfl, hb⟩
    have hx := chain (B := w.heap.size) (a := w) (by go_grown) (Nat.le_refl _) hb
    have hs := hb.size
    (repeat (first | rw [World.size_alloc] at hs | rw [World.size_drew] at hs))
    replace hL := chain (B := w.heap.size) (a := w) hL (by first | exact Nat.le_refl _ | simp) hx
    replace hc : H0 ≤ w1_.heap.size := by omega
    clear hx hs hb
    obtain ⟨H1, hH1, hcn⟩ : ∃ H, w1_.heap.size + 1 ≤ H ∧ H ≤ w1_.heap.size + 1 := ⟨_, Nat.le_refl _, Nat.le_refl _⟩
    have hHH1 : H0 ≤ H1 := by omega
    have hHU1 := hcn
    clear hc
    have hc := hcn
    clear hcn
    go_wp2_with fail
    refine (D1.out  _ ).mono ?_
    rintro e w2_ ⟨rfl, hb⟩
    have hx := chain (B := w1_.heap.size) (a := w1_) (by go_grown) (Nat.le_refl _) hb
    have hs := hb.size
    (repeat (first | rw [World.size_alloc] at hs | rw [World.size_drew] at hs))
    have kW0 := keepAt hb (C2.here w1_ (.int .i64 rn0) (.int .i64 rm0) 36)
    replace hL := chain (B := w.heap.size) (a := w) hL (by first | exact Nat.le_refl _ | simp) hx
    replace hc : H1 ≤ w2_.heap.size := by omega
    clear hx hs hb
    go_wp2_with fail
    refine (eqTable_same _ _ _).mono ?_
    rintro e w3_ ⟨rfl, hb⟩
    have hx := chain (B := w2_.heap.size) (a := w2_) (by go_grown) (Nat.le_refl _) hb
    have hs := hb.size
    (repeat (first | rw [World.size_alloc] at hs | rw [World.size_drew] at hs))
    replace kW0 := kW0.keep hx
    have kG0 := keepAt hb (C2.here w2_ (.int .i64 rn0) (.int .i64 rm0) 36)
    replace hL := chain (B := w.heap.size) (a := w) hL (by first | exact Nat.le_refl _ | simp) hx
    replace hc : H1 ≤ w3_.heap.size := by omega
    clear hx hs hb
    go_wp2_with fail
    go_ret
    exact ⟨rfl, by first | assumption | go_grown⟩

end Go.Proofs.Ytohmhiodmaahfaa
