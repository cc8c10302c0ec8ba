/- The walk of FnExactTurnsToSymmetric. -/
import Derived.Test.YtapcblibokkhcaaDoorTuI
import Derived.Test.YtapcblibokkhcaaDoorTuS
import Derived.Test.YtapcblibokkhcaaDoorIn
namespace Go.Proofs.YtapcblibokkhcaaDoor
open Go.RowKit
set_option linter.unusedVariables false

set_option maxRecDepth 100000 in
set_option maxHeartbeats 4000000 in
theorem walkFnExactTurnsToSymmetric (n0 v0_ : Int) (wa0 : (Lit.int .i64 n0).wf = true) (wb0 : (Lit.int .i64 v0_).wf = true) (w : World)  (ag : Addr) (hg : w.cell? ⟨0, 0, none⟩ = some (errV ag)) :
    Calls Tryd.prog 7 #[.agg #[.int .i64 n0, .int .i64 v0_]] w fun e w' => e = .returned (.bool true) ∧ Below w.heap.size w w' := by
  obtain ⟨l0, hl_0⟩ : ∃ l, resTurnsToSymmetric_0 n0 v0_ = l := ⟨_, rfl⟩
  have HLEN0 : Hid (l0.length ≤ 1000) := by rw [← hl_0]; exact lenTurnsToSymmetric_0 n0 v0_
  obtain ⟨c1, hc_1⟩ : ∃ c : Int, resTurnsToSymmetric_1 n0 v0_ = c := ⟨_, rfl⟩
  have D1 : Hid (∀ (w : World), w.cell? ⟨0, 0, none⟩ = some (errV ag) → Calls Tryd.prog 24 #[.agg #[.int .i64 n0, .int .i64 v0_]] w fun e w' => ∃ u0, e = .returned (.tuple #[u0, .int .i64 c1]) ∧ Owns w' w.heap.size u0 l0 ∧ Below w.heap.size w w') := fun  w  hgg => by subst hl_0 hc_1; exact iTurnsToSymmetric_any n0 v0_ ag  w  hgg
  have D2 : Hid (∀ (w : World), Calls Tryd.prog 23 #[.agg #[.int .i64 n0, .int .i64 v0_]] w fun e w' => ∃ u0, e = .returned (.tuple #[u0, .int .i64 c1]) ∧ Owns w' w.heap.size u0 l0 ∧ Below w.heap.size w w') := fun  w  => by subst hl_0 hc_1; exact sTurnsToSymmetric_any n0 v0_  w 
  clear hl_0 hc_1 
  have k0 : C2 (w.alloc (.cells #[.int .i64 n0, .int .i64 v0_] 23)) (w.heap.size) (.int .i64 n0) (.int .i64 v0_) := by simpa using C2.here w (.int .i64 n0) (.int .i64 v0_) 23
  have hL : Below w.heap.size w w := Below.refl _ _
  obtain ⟨H0, hH0, hc⟩ : ∃ H, w.heap.size ≤ H ∧ H ≤ w.heap.size := ⟨w.heap.size, Nat.le_refl _, Nat.le_refl _⟩
  have HG := Lib.hid hg
  clear hg
  go_enter Tryd.func7, Tryd.ntmps7
  go_wp2_with fail
  refine (toTable_any _ _ _).mono ?_
  rintro e w1_ ⟨rfl, hb⟩
  have hx := chain (B := w.heap.size) (a := w) (by go_grown) (Nat.le_refl _) hb
  have hs := hx.size
  replace k0 := keepAt hb k0
  replace hL := chain (B := w.heap.size) (a := w) hL (Nat.le_refl _) hx
  replace hc : H0 ≤ w1_.heap.size := by omega
  clear hx hs hb
  go_wp2_with fail
  refine (D2.out  _ ).mono ?_
  rintro e w2_ ⟨W0, rfl, o_0, hb⟩
  have hx := chain (B := w1_.heap.size) (a := w1_) (by go_grown) (Nat.le_refl _) hb
  have hs := hx.size
  replace k0 := k0.keep hx
  replace hL := chain (B := w.heap.size) (a := w) hL (Nat.le_refl _) hx
  obtain ⟨H1, hH1, hcn, hn3⟩ : ∃ H, H0 ≤ H ∧ H ≤ w2_.heap.size ∧ w2_.heap.size ≤ H := ⟨w2_.heap.size, by omega, Nat.le_refl _, Nat.le_refl _⟩
  have hHk1 : w.heap.size < H1 := by have := k0.2.2.2.2; omega
  have iW0 := In.of (lo := H0) (hi := H1) o_0 (by (repeat (first | rw [World.size_alloc] | rw [World.size_drew])); omega) hn3
  clear o_0 hn3
  clear hc
  have hc := hcn
  clear hcn
  clear hx hs hb
  go_wp2_with fail
  refine (toTable_any _ _ _).mono ?_
  rintro e w3_ ⟨rfl, hb⟩
  have hx := chain (B := w2_.heap.size) (a := w2_) (by go_grown) (Nat.le_refl _) hb
  have hs := hx.size
  replace iW0 := iW0.keep hx
  replace k0 := k0.keep hx
  replace hL := chain (B := w.heap.size) (a := w) hL (Nat.le_refl _) hx
  replace hc : H1 ≤ w3_.heap.size := by omega
  clear hx hs hb
  go_wp2_with fail
  refine (D1.out  _  (cell_later (by go_grown) HG.out)).mono ?_
  rintro e w4_ ⟨G0, rfl, o_0, hb⟩
  have hx := chain (B := w3_.heap.size) (a := w3_) (by go_grown) (Nat.le_refl _) hb
  have hs := hx.size
  replace iW0 := iW0.keep hx
  replace k0 := k0.keep hx
  replace hL := chain (B := w.heap.size) (a := w) hL (Nat.le_refl _) hx
  obtain ⟨H2, hH2, hcn, hn3⟩ : ∃ H, H1 ≤ H ∧ H ≤ w4_.heap.size ∧ w4_.heap.size ≤ H := ⟨w4_.heap.size, by omega, Nat.le_refl _, Nat.le_refl _⟩
  have hHk2 : w.heap.size < H2 := by have := k0.2.2.2.2; omega
  have iG0 := In.of (lo := H1) (hi := H2) o_0 (by (repeat (first | rw [World.size_alloc] | rw [World.size_drew])); omega) hn3
  clear o_0 hn3
  clear hc
  have hc := hcn
  clear hcn
  clear hx hs hb
  go_wp2_with fail
  refine (eqInt64S_same _ _ l0 _ iG0.reads iW0.reads).mono ?_
  rintro e w5_ ⟨rfl, hb⟩
  have hx := chain (B := w4_.heap.size) (a := w4_) (by go_grown) (Nat.le_refl _) hb
  have hs := hx.size
  replace iW0 := iW0.keep hx
  replace iG0 := iG0.keep hx
  replace k0 := k0.keep hx
  replace hL := chain (B := w.heap.size) (a := w) hL (Nat.le_refl _) hx
  replace hc : H2 ≤ w5_.heap.size := by omega
  clear hx hs hb
  go_wp2_with fail
  refine (markIn_any _ _ _ _ 1 _ iG0 (by have := HLEN0.out; omega) (by omega) (by have := HLEN0.out; omega)).mono ?_
  rintro e w6_ ⟨rfl, im, oo⟩
  have hs := oo.size
  replace iW0 := iW0.only oo (by omega)
  replace k0 := C2.only k0 oo (by have := k0.2.2.2.2; omega)
  replace hL := hL.trans ((oo.below (by omega)).mono (by have := hH0; omega))
  replace hc : H2 ≤ w6_.heap.size := by omega
  clear oo hs iG0
  have iM0 := im
  clear im
  go_wp2_with fail
  have hq0 : ¬ (1 + (l0.length : Int)) < 0 := by omega
  refine (heldInt64S_any _ l0.length 1 _ iM0.reads (by have := HLEN0.out; omega) (by omega) (by have := HLEN0.out; omega)).mono ?_
  rintro e w7_ ⟨rfl, hb⟩
  have hx := chain (B := w6_.heap.size) (a := w6_) (by go_grown) (Nat.le_refl _) hb
  have hs := hx.size
  replace iW0 := iW0.keep hx
  replace iM0 := iM0.keep hx
  replace k0 := k0.keep hx
  replace hL := chain (B := w.heap.size) (a := w) hL (Nat.le_refl _) hx
  replace hc : H2 ≤ w7_.heap.size := by omega
  clear hx hs hb
  go_wp2_with fail
  refine (toTable_any _ _ _).mono ?_
  rintro e w8_ ⟨rfl, hb⟩
  have hx := chain (B := w7_.heap.size) (a := w7_) (by go_grown) (Nat.le_refl _) hb
  have hs := hx.size
  replace iW0 := iW0.keep hx
  replace iM0 := iM0.keep hx
  replace k0 := k0.keep hx
  replace hL := chain (B := w.heap.size) (a := w) hL (Nat.le_refl _) hx
  replace hc : H2 ≤ w8_.heap.size := by omega
  clear hx hs hb
  go_wp2_with fail
  refine (D1.out  _  (cell_later (by go_grown) HG.out)).mono ?_
  rintro e w9_ ⟨Z0, rfl, o_0, hb⟩
  have hx := chain (B := w8_.heap.size) (a := w8_) (by go_grown) (Nat.le_refl _) hb
  have hs := hx.size
  replace iW0 := iW0.keep hx
  replace iM0 := iM0.keep hx
  replace k0 := k0.keep hx
  replace hL := chain (B := w.heap.size) (a := w) hL (Nat.le_refl _) hx
  obtain ⟨H3, hH3, hcn, hn3⟩ : ∃ H, H2 ≤ H ∧ H ≤ w9_.heap.size ∧ w9_.heap.size ≤ H := ⟨w9_.heap.size, by omega, Nat.le_refl _, Nat.le_refl _⟩
  have hHk3 : w.heap.size < H3 := by have := k0.2.2.2.2; omega
  have iZ0 := In.of (lo := H2) (hi := H3) o_0 (by (repeat (first | rw [World.size_alloc] | rw [World.size_drew])); omega) hn3
  clear o_0 hn3
  clear hc
  have hc := hcn
  clear hcn
  clear hx hs hb
  go_wp2_with fail
  refine (eqInt64S_same _ _ l0 _ iZ0.reads iW0.reads).mono ?_
  rintro e w10_ ⟨rfl, hb⟩
  have hx := chain (B := w9_.heap.size) (a := w9_) (by go_grown) (Nat.le_refl _) hb
  have hs := hx.size
  replace iW0 := iW0.keep hx
  replace iM0 := iM0.keep hx
  replace iZ0 := iZ0.keep hx
  replace k0 := k0.keep hx
  replace hL := chain (B := w.heap.size) (a := w) hL (Nat.le_refl _) hx
  replace hc : H3 ≤ w10_.heap.size := by omega
  clear hx hs hb
  clear hq0
  go_wp2_with fail
  have hq0 : ¬ (1 + (l0.length : Int)) < 0 := by omega
  refine (heldInt64S_any _ l0.length 1 _ iM0.reads (by have := HLEN0.out; omega) (by omega) (by have := HLEN0.out; omega)).mono ?_
  rintro e w11_ ⟨rfl, hb⟩
  have hx := chain (B := w10_.heap.size) (a := w10_) (by go_grown) (Nat.le_refl _) hb
  have hs := hx.size
  replace iW0 := iW0.keep hx
  replace iM0 := iM0.keep hx
  replace iZ0 := iZ0.keep hx
  replace k0 := k0.keep hx
  replace hL := chain (B := w.heap.size) (a := w) hL (Nat.le_refl _) hx
  replace hc : H3 ≤ w11_.heap.size := by omega
  clear hx hs hb
  go_wp2_with fail
  go_ret
  exact ⟨rfl, by first | assumption | go_grown⟩

end Go.Proofs.YtapcblibokkhcaaDoor
