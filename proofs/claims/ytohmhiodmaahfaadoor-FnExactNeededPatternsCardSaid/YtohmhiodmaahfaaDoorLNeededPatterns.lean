/- The walk of FnExactNeededPatterns. -/
import Derived.Test.YtohmhiodmaahfaaDoorNeS
import Derived.Test.YtohmhiodmaahfaaDoorStM
import Derived.Test.YtohmhiodmaahfaaDoorLkL
import Derived.Test.YtohmhiodmaahfaaDoorTool
namespace Go.Proofs.YtohmhiodmaahfaaDoor
open Go.RowKit
set_option linter.unusedVariables false

set_option maxRecDepth 100000 in
set_option maxHeartbeats 8000000 in
theorem walkFnExactNeededPatterns (n0 m0 : Int) (wa0 : (Lit.int .i64 n0).wf = true) (wb0 : (Lit.int .i64 m0).wf = true) (w : World)  :
    Calls Tryd.prog 7 #[.agg #[.int .i64 n0, .int .i64 m0]] w fun e w' => e = .returned (.bool true) ∧ Below w.heap.size w w' := by
  have kp0 : C2 (w.alloc (.cells #[.int .i64 n0, .int .i64 m0] 26)) (w.heap.size) (.int .i64 n0) (.int .i64 m0) := by simpa using C2.here w (.int .i64 n0) (.int .i64 m0) 26
  have hL0 : Below w.heap.size w (w.alloc (.cells #[.int .i64 n0, .int .i64 m0] 26)) := (Below.refl _ _).alloc (by simp) (.cells #[.int .i64 n0, .int .i64 m0] 26)
  obtain ⟨l0, hr_l0⟩ : ∃ x : List ByteArray, resNeededPatterns_0 n0 m0 = x := ⟨_, rfl⟩
  have HLEN0 : Hid (l0.length ≤ 1000) := by rw [← hr_l0]; exact lenNeededPatterns_0 n0 m0
  obtain ⟨c1, hr_c1⟩ : ∃ x : Int, resNeededPatterns_1 n0 m0 = x := ⟨_, rfl⟩
  have D1 : Hid (∀ (w : World), Calls Tryd.prog 25 #[.agg #[.int .i64 n0, .int .i64 m0]] w fun e w' => ∃ u0, e = .returned (.tuple #[u0, .int .i64 c1]) ∧ OwnsS w' w.heap.size (u0) l0 ∧ Below w.heap.size w w') := fun  w  => by subst hr_l0 hr_c1; exact iNeededPatterns_any n0 m0 w 
  have D2 : Hid (∀ (w : World), Calls Tryd.prog 24 #[.agg #[.int .i64 n0, .int .i64 m0]] w fun e w' => ∃ u0, e = .returned (.tuple #[u0, .int .i64 c1]) ∧ RdS w' (u0) l0 ∧ Below w.heap.size w w') := fun  w  => by subst hr_l0 hr_c1; exact sNeededPatterns_any n0 m0 w 
  clear hr_l0 hr_c1
  have hL := hL0
  clear hL0
  obtain ⟨H0, hH0, hc⟩ : ∃ H, w.heap.size + 1 ≤ H ∧ H ≤ w.heap.size + 1 := ⟨_, Nat.le_refl _, Nat.le_refl _⟩
  have hHU0 := hc
  go_enter Tryd.func7, Tryd.ntmps7
  go_wp2_with fail
  refine (toTable_any _ _ _).mono ?_
  rintro e w1_ ⟨rfl, hb⟩
  have hx := chain (B := (w.alloc (.cells #[.int .i64 n0, .int .i64 m0] 26)).heap.size) (a := (w.alloc (.cells #[.int .i64 n0, .int .i64 m0] 26))) (by go_grown) (Nat.le_refl _) hb
  have hs := hb.size
  (repeat (first | rw [World.size_alloc] at hs | rw [World.size_drew] at hs))
  replace kp0 := kp0.keep hx
  replace hL := chain (B := w.heap.size) (a := w) hL (by first | exact Nat.le_refl _ | simp) hx
  replace hc : H0 ≤ w1_.heap.size := by omega
  clear hx hs hb
  go_wp2_with fail
  refine (D2.out  _ ).mono ?_
  rintro e w2_ ⟨Wu0, rfl, of0, hb⟩
  have hx := chain (B := w1_.heap.size) (a := w1_) (by go_grown) (Nat.le_refl _) hb
  have hs := hb.size
  (repeat (first | rw [World.size_alloc] at hs | rw [World.size_drew] at hs))
  replace kp0 := kp0.keep hx
  replace hL := chain (B := w.heap.size) (a := w) hL (by first | exact Nat.le_refl _ | simp) hx
  have HW0 := Lib.hid of0
  replace hc : H0 ≤ w2_.heap.size := by omega
  clear hx hs hb of0
  have hBW : Below w2_.heap.size w2_ w2_ := Below.refl _ _
  obtain ⟨H1, hH1, hcn⟩ : ∃ H, w2_.heap.size ≤ H ∧ H ≤ w2_.heap.size := ⟨_, Nat.le_refl _, Nat.le_refl _⟩
  have hHH1 : H0 ≤ H1 := by omega
  have hHU1 := hcn
  clear hc
  have hc := hcn
  clear hcn
  go_wp2_with fail
  refine (toTable_any _ _ _).mono ?_
  rintro e w3_ ⟨rfl, hb⟩
  have hx := chain (B := w2_.heap.size) (a := w2_) (by go_grown) (Nat.le_refl _) hb
  have hs := hb.size
  (repeat (first | rw [World.size_alloc] at hs | rw [World.size_drew] at hs))
  replace kp0 := kp0.keep hx
  replace hL := chain (B := w.heap.size) (a := w) hL (by first | exact Nat.le_refl _ | simp) hx
  replace hBW := chain (B := w2_.heap.size) (a := w2_) hBW (Nat.le_refl _) hx
  replace hc : H1 ≤ w3_.heap.size := by omega
  clear hx hs hb
  go_wp2_with fail
  refine (D1.out  _ ).mono ?_
  rintro e w4_ ⟨Gu0, rfl, of0, hb⟩
  have hx := chain (B := w3_.heap.size) (a := w3_) (by go_grown) (Nat.le_refl _) hb
  have hs := hb.size
  (repeat (first | rw [World.size_alloc] at hs | rw [World.size_drew] at hs))
  replace kp0 := kp0.keep hx
  replace hL := chain (B := w.heap.size) (a := w) hL (by first | exact Nat.le_refl _ | simp) hx
  replace hBW := chain (B := w2_.heap.size) (a := w2_) hBW (Nat.le_refl _) hx
  (repeat (first | rw [World.size_alloc] at of0 | rw [World.size_drew] at of0))
  obtain ⟨H2, hH2, hcn⟩ : ∃ H, w4_.heap.size ≤ H ∧ H ≤ w4_.heap.size := ⟨_, Nat.le_refl _, Nat.le_refl _⟩
  have hHH2 : H1 ≤ H2 := by omega
  have hco := hc
  have hHU2 := hcn
  clear hc
  have hc := hcn
  clear hcn
  have oG0 := Lib.hid (of0.monoB (b' := H1) (by omega))
  clear of0
  clear hx hs hb hco
  go_wp2_with fail
  refine (eqStringS_same _ _ l0 _ (oG0.out.keep (by go_grown)).rd (HW0.out.keep (by go_grown)) HLEN0.out).mono ?_
  rintro e w5_ ⟨rfl, hb⟩
  have hx := chain (B := w4_.heap.size) (a := w4_) (by go_grown) (Nat.le_refl _) hb
  have hs := hb.size
  (repeat (first | rw [World.size_alloc] at hs | rw [World.size_drew] at hs))
  replace kp0 := kp0.keep hx
  replace oG0 := Lib.hid (oG0.out.keep hx)
  replace hL := chain (B := w.heap.size) (a := w) hL (by first | exact Nat.le_refl _ | simp) hx
  replace hBW := chain (B := w2_.heap.size) (a := w2_) hBW (Nat.le_refl _) hx
  replace hc : H2 ≤ w5_.heap.size := by omega
  clear hx hs hb
  go_wp2_with fail
  refine (markStringS_one _ _ l0 _ oG0.out HLEN0.out).mono ?_
  rintro e w6_ ⟨rfl, om, oo⟩
  have hs := oo.size
  (repeat (first | rw [World.size_alloc] at hs | rw [World.size_drew] at hs))
  replace kp0 := C2.only kp0 oo (by have := kp0.2.2.2.2; omega)
  replace hL := Only.under hL oo (by omega) (by have := hL.size; omega)
  replace hBW := Only.under hBW oo (by omega) (by have := hBW.size; omega)
  replace hc : H2 ≤ w6_.heap.size := by omega
  clear oG0
  have oM0 := Lib.hid om
  clear om oo hs
  go_wp2_with fail
  have hqa0 : ¬ (1 + (l0.length : Int)) < 0 := by have := HLEN0.out; omega
  refine (heldStringS_one _ l0.length _ (oM0.out.keep (by go_grown)).rd HLEN0.out).mono ?_
  rintro e w7_ ⟨rfl, hb⟩
  have hx := chain (B := w6_.heap.size) (a := w6_) (by go_grown) (Nat.le_refl _) hb
  have hs := hb.size
  (repeat (first | rw [World.size_alloc] at hs | rw [World.size_drew] at hs))
  replace kp0 := kp0.keep hx
  replace oM0 := Lib.hid (oM0.out.keep hx)
  replace hL := chain (B := w.heap.size) (a := w) hL (by first | exact Nat.le_refl _ | simp) hx
  replace hBW := chain (B := w2_.heap.size) (a := w2_) hBW (Nat.le_refl _) hx
  replace hc : H2 ≤ w7_.heap.size := by omega
  clear hx hs hb
  clear hqa0
  go_wp2_with fail
  refine (toTable_any _ _ _).mono ?_
  rintro e w8_ ⟨rfl, hb⟩
  have hx := chain (B := w7_.heap.size) (a := w7_) (by go_grown) (Nat.le_refl _) hb
  have hs := hb.size
  (repeat (first | rw [World.size_alloc] at hs | rw [World.size_drew] at hs))
  replace kp0 := kp0.keep hx
  replace oM0 := Lib.hid (oM0.out.keep hx)
  replace hL := chain (B := w.heap.size) (a := w) hL (by first | exact Nat.le_refl _ | simp) hx
  replace hBW := chain (B := w2_.heap.size) (a := w2_) hBW (Nat.le_refl _) hx
  replace hc : H2 ≤ w8_.heap.size := by omega
  clear hx hs hb
  go_wp2_with fail
  refine (D1.out  _ ).mono ?_
  rintro e w9_ ⟨Zu0, rfl, of0, hb⟩
  have hx := chain (B := w8_.heap.size) (a := w8_) (by go_grown) (Nat.le_refl _) hb
  have hs := hb.size
  (repeat (first | rw [World.size_alloc] at hs | rw [World.size_drew] at hs))
  replace kp0 := kp0.keep hx
  replace oM0 := Lib.hid (oM0.out.keep hx)
  replace hL := chain (B := w.heap.size) (a := w) hL (by first | exact Nat.le_refl _ | simp) hx
  replace hBW := chain (B := w2_.heap.size) (a := w2_) hBW (Nat.le_refl _) hx
  have oZ0 := Lib.hid of0
  clear of0
  replace hc : H2 ≤ w9_.heap.size := by omega
  clear hx hs hb
  go_wp2_with fail
  refine (eqStringS_same _ _ l0 _ (oZ0.out.keep (by go_grown)).rd (HW0.out.keep (by go_grown)) HLEN0.out).mono ?_
  rintro e w10_ ⟨rfl, hb⟩
  have hx := chain (B := w9_.heap.size) (a := w9_) (by go_grown) (Nat.le_refl _) hb
  have hs := hb.size
  (repeat (first | rw [World.size_alloc] at hs | rw [World.size_drew] at hs))
  replace kp0 := kp0.keep hx
  replace oM0 := Lib.hid (oM0.out.keep hx)
  replace oZ0 := Lib.hid (oZ0.out.keep hx)
  replace hL := chain (B := w.heap.size) (a := w) hL (by first | exact Nat.le_refl _ | simp) hx
  replace hBW := chain (B := w2_.heap.size) (a := w2_) hBW (Nat.le_refl _) hx
  replace hc : H2 ≤ w10_.heap.size := by omega
  clear hx hs hb
  clear oZ0
  go_wp2_with fail
  have hqb0 : ¬ (1 + (l0.length : Int)) < 0 := by have := HLEN0.out; omega
  refine (heldStringS_one _ l0.length _ (oM0.out.keep (by go_grown)).rd HLEN0.out).mono ?_
  rintro e w11_ ⟨rfl, hb⟩
  have hx := chain (B := w10_.heap.size) (a := w10_) (by go_grown) (Nat.le_refl _) hb
  have hs := hb.size
  (repeat (first | rw [World.size_alloc] at hs | rw [World.size_drew] at hs))
  replace kp0 := kp0.keep hx
  replace oM0 := Lib.hid (oM0.out.keep hx)
  replace hL := chain (B := w.heap.size) (a := w) hL (by first | exact Nat.le_refl _ | simp) hx
  replace hBW := chain (B := w2_.heap.size) (a := w2_) hBW (Nat.le_refl _) hx
  replace hc : H2 ≤ w11_.heap.size := by omega
  clear hx hs hb
  go_wp2_with fail
  go_ret
  exact ⟨rfl, by first | assumption | go_grown⟩

end Go.Proofs.YtohmhiodmaahfaaDoor
