/- The walk of FnExactValueWithDoubts. -/
import Derived.Test.YtohmhiodmaahfaaDoorVd
import Derived.Test.YtohmhiodmaahfaaDoorTool
namespace Go.Proofs.YtohmhiodmaahfaaDoor
open Go.RowKit
set_option linter.unusedVariables false

set_option maxRecDepth 100000 in
set_option maxHeartbeats 8000000 in
theorem walkFnExactValueWithDoubts (s0 : ByteArray) (hs0 : s0.size ≤ maxLen) (s1 : ByteArray) (hs1 : s1.size ≤ maxLen) (w : World)  :
    Calls Tryd.prog 3 #[.string s0, .string s1] w fun e w' => e = .returned (.bool true) ∧ Below w.heap.size w w' := by
  by_cases hbig0 : (1048576 : Int) < (s0.size : Int)
  · skip
    go_enter Tryd.func3, Tryd.ntmps3
    go_wp2_with (fail)
    go_ret
    exact ⟨rfl, by first | exact Below.refl _ _ | go_grown⟩
  · have hlen0 : Hid ((s0.size : Int) ≤ 1048576) := by unfold Hid; omega
    have hsz0 : s0.size ≤ 1048576 := by omega
    by_cases hbig1 : (1048576 : Int) < (s1.size : Int)
    · skip
      go_enter Tryd.func3, Tryd.ntmps3
      go_wp2_with (fail)
      go_ret
      exact ⟨rfl, by first | exact Below.refl _ _ | go_grown⟩
    · have hlen1 : Hid ((s1.size : Int) ≤ 1048576) := by unfold Hid; omega
      have hsz1 : s1.size ≤ 1048576 := by omega
      have hL0 : Below w.heap.size w w := Below.refl _ _
      obtain ⟨c0, hr_c0⟩ : ∃ x : Int, resValueWithDoubts_0 s0 s1 = x := ⟨_, rfl⟩
      obtain ⟨c1, hr_c1⟩ : ∃ x : Int, resValueWithDoubts_1 s0 s1 = x := ⟨_, rfl⟩
      have D1 : Hid (∀ (w : World), Calls Tryd.prog 10 #[.string s0, .string s1] w fun e w' => e = .returned (.tuple #[.int .i64 c0, .int .i64 c1]) ∧ Below w.heap.size w w') := fun  w  => by subst hr_c0 hr_c1; exact iValueWithDoubts_any s0 hsz0 s1 hsz1 w 
      have D2 : Hid (∀ (w : World), Calls Tryd.prog 9 #[.string s0, .string s1] w fun e w' => e = .returned (.tuple #[.int .i64 c0, .int .i64 c1]) ∧ Below w.heap.size w w') := fun  w  => by subst hr_c0 hr_c1; exact sValueWithDoubts_any s0 hsz0 s1 hsz1 w 
      clear hr_c0 hr_c1
      have hL := hL0
      clear hL0
      obtain ⟨H0, hH0, hc⟩ : ∃ H, w.heap.size + 0 ≤ H ∧ H ≤ w.heap.size + 0 := ⟨_, Nat.le_refl _, Nat.le_refl _⟩
      have hHU0 := hc
      go_enter Tryd.func3, Tryd.ntmps3
      go_wp2_with fail
      refine (D2.out  _ ).mono ?_
      rintro e w1_ ⟨rfl, hb⟩
      have hx := chain (B := w.heap.size) (a := w) (by go_grown) (Nat.le_refl _) hb
      have hs := hb.size
      (repeat (first | rw [World.size_alloc] at hs | rw [World.size_drew] at hs))
      replace hL := chain (B := w.heap.size) (a := w) hL (by first | exact Nat.le_refl _ | simp) hx
      replace hc : H0 ≤ w1_.heap.size := by omega
      clear hx hs hb
      obtain ⟨H1, hH1, hcn⟩ : ∃ H, w1_.heap.size ≤ H ∧ H ≤ w1_.heap.size := ⟨_, Nat.le_refl _, Nat.le_refl _⟩
      have hHH1 : H0 ≤ H1 := by omega
      have hHU1 := hcn
      clear hc
      have hc := hcn
      clear hcn
      go_wp2_with fail
      refine (D1.out  _ ).mono ?_
      rintro e w2_ ⟨rfl, hb⟩
      have hx := chain (B := w1_.heap.size) (a := w1_) (by go_grown) (Nat.le_refl _) hb
      have hs := hb.size
      (repeat (first | rw [World.size_alloc] at hs | rw [World.size_drew] at hs))
      replace hL := chain (B := w.heap.size) (a := w) hL (by first | exact Nat.le_refl _ | simp) hx
      replace hc : H1 ≤ w2_.heap.size := by omega
      clear hx hs hb
      go_wp2_with fail
      go_ret
      exact ⟨rfl, by first | assumption | go_grown⟩

end Go.Proofs.YtohmhiodmaahfaaDoor
