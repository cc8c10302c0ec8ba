/- The walk of FnExactIsSymmetric. -/
import Derived.Test.YtapcblibokkhcaaDoorSyI
import Derived.Test.YtapcblibokkhcaaDoorSyS
namespace Go.Proofs.YtapcblibokkhcaaDoor
open Go.RowKit
set_option linter.unusedVariables false

set_option maxRecDepth 100000 in
set_option maxHeartbeats 4000000 in
theorem walkFnExactIsSymmetric (n0 v0_ : Int) (wa0 : (Lit.int .i64 n0).wf = true) (wb0 : (Lit.int .i64 v0_).wf = true) (w : World)  (ag : Addr) (hg : w.cell? ⟨0, 0, none⟩ = some (errV ag)) :
    Calls Tryd.prog 4 #[.agg #[.int .i64 n0, .int .i64 v0_]] w fun e w' => e = .returned (.bool true) ∧ Below w.heap.size w w' := by
  obtain ⟨c0, hc_0⟩ : ∃ c : Bool, resIsSymmetric_0 n0 v0_ = c := ⟨_, rfl⟩
  obtain ⟨c1, hc_1⟩ : ∃ c : Int, resIsSymmetric_1 n0 v0_ = c := ⟨_, rfl⟩
  have D1 : Hid (∀ (w : World), w.cell? ⟨0, 0, none⟩ = some (errV ag) → Calls Tryd.prog 12 #[.agg #[.int .i64 n0, .int .i64 v0_]] w fun e w' => e = .returned (.tuple #[.bool c0, .int .i64 c1]) ∧ Below w.heap.size w w') := fun  w  hgg => by subst hc_0 hc_1; exact iIsSymmetric_any n0 v0_ ag  w  hgg
  have D2 : Hid (∀ (w : World), Calls Tryd.prog 11 #[.agg #[.int .i64 n0, .int .i64 v0_]] w fun e w' => e = .returned (.tuple #[.bool c0, .int .i64 c1]) ∧ Below w.heap.size w w') := fun  w  => by subst hc_0 hc_1; exact sIsSymmetric_any n0 v0_  w 
  clear hc_0 hc_1 
  have k0 : C2 (w.alloc (.cells #[.int .i64 n0, .int .i64 v0_] 23)) (w.heap.size) (.int .i64 n0) (.int .i64 v0_) := by simpa using C2.here w (.int .i64 n0) (.int .i64 v0_) 23
  have hL : Below w.heap.size w w := Below.refl _ _
  obtain ⟨H0, hH0, hc⟩ : ∃ H, w.heap.size ≤ H ∧ H ≤ w.heap.size := ⟨w.heap.size, Nat.le_refl _, Nat.le_refl _⟩
  have HG := Lib.hid hg
  clear hg
  go_enter Tryd.func4, Tryd.ntmps4
  go_wp2_with fail
  refine (toTable_any _ _ _).mono ?_
  rintro e w1_ ⟨rfl, hb⟩
  have hx := chain (B := w.heap.size) (a := w) (by go_grown) (Nat.le_refl _) hb
  have hs := hx.size
  replace k0 := keepAt hb k0
  replace hL := chain (B := w.heap.size) (a := w) hL (Nat.le_refl _) hx
  replace hc : H0 ≤ w1_.heap.size := by omega
  clear hx hs hb
  go_wp2_with fail
  refine (D2.out  _ ).mono ?_
  rintro e w2_ ⟨rfl, hb⟩
  have hx := chain (B := w1_.heap.size) (a := w1_) (by go_grown) (Nat.le_refl _) hb
  have hs := hx.size
  replace k0 := k0.keep hx
  replace hL := chain (B := w.heap.size) (a := w) hL (Nat.le_refl _) hx
  replace hc : H0 ≤ w2_.heap.size := by omega
  clear hx hs hb
  go_wp2_with fail
  refine (toTable_any _ _ _).mono ?_
  rintro e w3_ ⟨rfl, hb⟩
  have hx := chain (B := w2_.heap.size) (a := w2_) (by go_grown) (Nat.le_refl _) hb
  have hs := hx.size
  replace k0 := k0.keep hx
  replace hL := chain (B := w.heap.size) (a := w) hL (Nat.le_refl _) hx
  replace hc : H0 ≤ w3_.heap.size := by omega
  clear hx hs hb
  go_wp2_with fail
  refine (D1.out  _  (cell_later (by go_grown) HG.out)).mono ?_
  rintro e w4_ ⟨rfl, hb⟩
  have hx := chain (B := w3_.heap.size) (a := w3_) (by go_grown) (Nat.le_refl _) hb
  have hs := hx.size
  replace k0 := k0.keep hx
  replace hL := chain (B := w.heap.size) (a := w) hL (Nat.le_refl _) hx
  replace hc : H0 ≤ w4_.heap.size := by omega
  clear hx hs hb
  go_wp2_with fail
  go_ret
  exact ⟨rfl, by first | assumption | go_grown⟩

end Go.Proofs.YtapcblibokkhcaaDoor
