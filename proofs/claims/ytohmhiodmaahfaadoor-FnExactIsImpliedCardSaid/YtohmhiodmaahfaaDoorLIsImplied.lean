/- The walk of FnExactIsImplied. -/
import Derived.Test.YtohmhiodmaahfaaDoorImp
import Derived.Test.YtohmhiodmaahfaaDoorTool
namespace Go.Proofs.YtohmhiodmaahfaaDoor
open Go.RowKit
set_option linter.unusedVariables false

set_option maxRecDepth 100000 in
set_option maxHeartbeats 8000000 in
theorem walkFnExactIsImplied (n0 m0 : Int) (wa0 : (Lit.int .i64 n0).wf = true) (wb0 : (Lit.int .i64 m0).wf = true) (s1 : ByteArray) (hs1 : s1.size ≤ maxLen) (w : World)  :
    Calls Tryd.prog 4 #[.agg #[.int .i64 n0, .int .i64 m0], .string s1] w fun e w' => e = .returned (.bool true) ∧ Below w.heap.size w w' := by
  by_cases hbig1 : (1048576 : Int) < (s1.size : Int)
  · skip
    go_enter Tryd.func4, Tryd.ntmps4
    go_wp2_with (fail)
    go_ret
    exact ⟨rfl, by first | exact Below.refl _ _ | go_grown⟩
  · have hlen1 : Hid ((s1.size : Int) ≤ 1048576) := by unfold Hid; omega
    have hsz1 : s1.size ≤ 1048576 := by omega
    have kp0 : C2 (w.alloc (.cells #[.int .i64 n0, .int .i64 m0] 26)) (w.heap.size) (.int .i64 n0) (.int .i64 m0) := by simpa using C2.here w (.int .i64 n0) (.int .i64 m0) 26
    have hL0 : Below w.heap.size w (w.alloc (.cells #[.int .i64 n0, .int .i64 m0] 26)) := (Below.refl _ _).alloc (by simp) (.cells #[.int .i64 n0, .int .i64 m0] 26)
    obtain ⟨c0, hr_c0⟩ : ∃ x : Bool, resIsImplied_0 n0 m0 s1 = x := ⟨_, rfl⟩
    obtain ⟨c1, hr_c1⟩ : ∃ x : Int, resIsImplied_1 n0 m0 s1 = x := ⟨_, rfl⟩
    have D1 : Hid (∀ (w : World), Calls Tryd.prog 13 #[.agg #[.int .i64 n0, .int .i64 m0], .string s1] w fun e w' => e = .returned (.tuple #[.bool c0, .int .i64 c1]) ∧ Below w.heap.size w w') := fun  w  => by subst hr_c0 hr_c1; exact iIsImplied_any n0 m0 s1 hsz1 w 
    have D2 : Hid (∀ (w : World), Calls Tryd.prog 11 #[.agg #[.int .i64 n0, .int .i64 m0], .string s1] w fun e w' => e = .returned (.tuple #[.bool c0, .int .i64 c1]) ∧ Below w.heap.size w w') := fun  w  => by subst hr_c0 hr_c1; exact sIsImplied_any n0 m0 s1 hsz1 w 
    clear hr_c0 hr_c1
    have hL := hL0
    clear hL0
    obtain ⟨H0, hH0, hc⟩ : ∃ H, w.heap.size + 1 ≤ H ∧ H ≤ w.heap.size + 1 := ⟨_, Nat.le_refl _, Nat.le_refl _⟩
    have hHU0 := hc
    go_enter Tryd.func4, Tryd.ntmps4
    go_wp2_with fail
    refine (toTable_any _ _ _).mono ?_
    rintro e w1_ ⟨rfl, hb⟩
    have hx := chain (B := (w.alloc (.cells #[.int .i64 n0, .int .i64 m0] 26)).heap.size) (a := (w.alloc (.cells #[.int .i64 n0, .int .i64 m0] 26))) (by go_grown) (Nat.le_refl _) hb
    have hs := hb.size
    (repeat (first | rw [World.size_alloc] at hs | rw [World.size_drew] at hs))
    replace kp0 := kp0.keep hx
    replace hL := chain (B := w.heap.size) (a := w) hL (by first | exact Nat.le_refl _ | simp) hx
    replace hc : H0 ≤ w1_.heap.size := by omega
    clear hx hs hb
    go_wp2_with fail
    refine (D2.out  _ ).mono ?_
    rintro e w2_ ⟨rfl, hb⟩
    have hx := chain (B := w1_.heap.size) (a := w1_) (by go_grown) (Nat.le_refl _) hb
    have hs := hb.size
    (repeat (first | rw [World.size_alloc] at hs | rw [World.size_drew] at hs))
    replace kp0 := kp0.keep hx
    replace hL := chain (B := w.heap.size) (a := w) hL (by first | exact Nat.le_refl _ | simp) hx
    replace hc : H0 ≤ w2_.heap.size := by omega
    clear hx hs hb
    obtain ⟨H1, hH1, hcn⟩ : ∃ H, w2_.heap.size ≤ H ∧ H ≤ w2_.heap.size := ⟨_, Nat.le_refl _, Nat.le_refl _⟩
    have hHH1 : H0 ≤ H1 := by omega
    have hHU1 := hcn
    clear hc
    have hc := hcn
    clear hcn
    go_wp2_with fail
    refine (toTable_any _ _ _).mono ?_
    rintro e w3_ ⟨rfl, hb⟩
    have hx := chain (B := w2_.heap.size) (a := w2_) (by go_grown) (Nat.le_refl _) hb
    have hs := hb.size
    (repeat (first | rw [World.size_alloc] at hs | rw [World.size_drew] at hs))
    replace kp0 := kp0.keep hx
    replace hL := chain (B := w.heap.size) (a := w) hL (by first | exact Nat.le_refl _ | simp) hx
    replace hc : H1 ≤ w3_.heap.size := by omega
    clear hx hs hb
    go_wp2_with fail
    refine (D1.out  _ ).mono ?_
    rintro e w4_ ⟨rfl, hb⟩
    have hx := chain (B := w3_.heap.size) (a := w3_) (by go_grown) (Nat.le_refl _) hb
    have hs := hb.size
    (repeat (first | rw [World.size_alloc] at hs | rw [World.size_drew] at hs))
    replace kp0 := kp0.keep hx
    replace hL := chain (B := w.heap.size) (a := w) hL (by first | exact Nat.le_refl _ | simp) hx
    replace hc : H1 ≤ w4_.heap.size := by omega
    clear hx hs hb
    go_wp2_with fail
    go_ret
    exact ⟨rfl, by first | assumption | go_grown⟩

end Go.Proofs.YtohmhiodmaahfaaDoor
