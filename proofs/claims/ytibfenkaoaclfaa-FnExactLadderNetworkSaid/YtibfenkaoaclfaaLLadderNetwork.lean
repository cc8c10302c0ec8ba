/- The walk of FnExactLadderNetwork. -/
import Derived.Test.YtibfenkaoaclfaaLdS
import Derived.Test.YtibfenkaoaclfaaNetX
import Derived.Test.YtibfenkaoaclfaaHeldN
import Derived.Test.YtibfenkaoaclfaaLk
import Derived.Test.YtibfenkaoaclfaaLk2
namespace Go.Proofs.Ytibfenkaoaclfaa
open Go.RowKit
set_option linter.unusedVariables false

set_option maxRecDepth 100000 in
set_option maxHeartbeats 8000000 in
theorem walkFnExactLadderNetwork (x0 : Int) (wx0 : (Lit.int .i64 x0).wf = true) (x1 : Int) (wx1 : (Lit.int .i64 x1).wf = true) (w : World)  :
    Calls Try.prog 7 #[.int .i64 x0, .int .i64 x1] w fun e w' => e = .returned (.bool true) ∧ Below w.heap.size w w' := by
  have hL0 : Below w.heap.size w w := Below.refl _ _
  obtain ⟨rp0, hr_rp0⟩ : ∃ x : Int, resLadderNetwork_0p x0 x1 = x := ⟨_, rfl⟩
  obtain ⟨l0, hr_l0⟩ : ∃ x : List (List Int), resLadderNetwork_0 x0 x1 = x := ⟨_, rfl⟩
  have HLEN0 : Hid (l0.length ≤ 100000 ∧ l0.length + sumLen l0 l0.length ≤ 1000000 ∧ ∀ i, i < l0.length → (l0.getD i []).length ≤ 1048576) := by rw [← hr_l0]; exact lenLadderNetwork_0 x0 x1
  obtain ⟨c1, hr_c1⟩ : ∃ x : Int, resLadderNetwork_1 x0 x1 = x := ⟨_, rfl⟩
  have D1 : Hid (∀ (w : World), Calls Try.prog 23 #[.int .i64 x0, .int .i64 x1] w fun e w' => ∃ sa0 sc0, e = .returned (.tuple #[.agg #[.int .i64 rp0, .slice sa0 l0.length sc0], .int .i64 c1]) ∧ Own2 w' w.heap.size w'.heap.size (.slice sa0 l0.length sc0) l0 ∧ Below w.heap.size w w') := fun  w  => by subst hr_rp0 hr_l0 hr_c1; exact iLadderNetwork_any x0 x1 w 
  have D2 : Hid (∀ (w : World), Calls Try.prog 22 #[.int .i64 x0, .int .i64 x1] w fun e w' => ∃ sa0 sc0, e = .returned (.tuple #[.agg #[.int .i64 rp0, .slice sa0 l0.length sc0], .int .i64 c1]) ∧ Reads2 w' (.slice sa0 l0.length sc0) l0 ∧ Below w.heap.size w w') := fun  w  => by subst hr_rp0 hr_l0 hr_c1; exact sLadderNetwork_any x0 x1 w 
  clear hr_rp0 hr_l0 hr_c1
  have hL := hL0
  clear hL0
  obtain ⟨H0, hH0, hc⟩ : ∃ H, w.heap.size + 0 ≤ H ∧ H ≤ w.heap.size + 0 := ⟨_, Nat.le_refl _, Nat.le_refl _⟩
  have hHU0 := hc
  go_enter Try.func7, Try.ntmps7
  go_wp2_with fail
  refine (D2.out  _ ).mono ?_
  rintro e w1_ ⟨Wa0, Wc0, rfl, of0, hb⟩
  have hx := chain (B := w.heap.size) (a := w) (by go_grown) (Nat.le_refl _) hb
  have hs := hb.size
  (repeat (first | rw [World.size_alloc] at hs | rw [World.size_drew] at hs))
  replace hL := chain (B := w.heap.size) (a := w) hL (by first | exact Nat.le_refl _ | simp) hx
  have HW0 := Lib.hid of0
  replace hc : H0 ≤ w1_.heap.size := by omega
  clear hx hs hb of0
  have hBW : Below w1_.heap.size w1_ w1_ := Below.refl _ _
  obtain ⟨H1, hH1, hcn⟩ : ∃ H, w1_.heap.size + 1 ≤ H ∧ H ≤ w1_.heap.size + 1 := ⟨_, Nat.le_refl _, Nat.le_refl _⟩
  have hHH1 : H0 ≤ H1 := by omega
  have hHU1 := hcn
  clear hc
  have hc := hcn
  clear hcn
  go_wp2_with fail
  refine (D1.out  _ ).mono ?_
  rintro e w2_ ⟨Ga0, Gc0, rfl, of0, hb⟩
  have hx := chain (B := w1_.heap.size) (a := w1_) (by go_grown) (Nat.le_refl _) hb
  have hs := hb.size
  (repeat (first | rw [World.size_alloc] at hs | rw [World.size_drew] at hs))
  have kW0 := keepAt hb (C2.here w1_ (.int .i64 rp0) (.slice Wa0 l0.length Wc0) 37)
  replace hL := chain (B := w.heap.size) (a := w) hL (by first | exact Nat.le_refl _ | simp) hx
  replace hBW := chain (B := w1_.heap.size) (a := w1_) hBW (Nat.le_refl _) hx
  (repeat (first | rw [World.size_alloc] at of0 | rw [World.size_drew] at of0))
  obtain ⟨H2, hH2, hcn⟩ : ∃ H, w2_.heap.size ≤ H ∧ H ≤ w2_.heap.size := ⟨_, Nat.le_refl _, Nat.le_refl _⟩
  have hHH2 : H1 ≤ H2 := by omega
  have hco := hc
  have hHU2 := hcn
  clear hc
  have hc := hcn
  clear hcn
  have oG0 := Lib.hid (of0.mono (B' := H1) (C' := H2) (by omega) (by omega))
  clear of0
  clear hx hs hb hco
  go_wp2_with fail
  refine (eqNetwork_same _ _ _ l0 _ (oG0.out.keep (by go_grown)).reads (HW0.out.keep (by go_grown))).mono ?_
  rintro e w3_ ⟨rfl, hb⟩
  have hx := chain (B := w2_.heap.size) (a := w2_) (by go_grown) (Nat.le_refl _) hb
  have hs := hb.size
  (repeat (first | rw [World.size_alloc] at hs | rw [World.size_drew] at hs))
  replace kW0 := kW0.keep hx
  replace oG0 := Lib.hid (oG0.out.keep hx)
  have kG0 := keepAt hb (C2.here w2_ (.int .i64 rp0) (.slice Ga0 l0.length Gc0) 37)
  replace hL := chain (B := w.heap.size) (a := w) hL (by first | exact Nat.le_refl _ | simp) hx
  replace hBW := chain (B := w1_.heap.size) (a := w1_) hBW (Nat.le_refl _) hx
  replace hc : H2 ≤ w3_.heap.size := by omega
  clear hx hs hb
  go_wp2_with fail
  refine (markNetwork_any rp0 _ _ _ l0 (1) _ oG0.out (by omega) HLEN0.out.2.2 (by omega) (by have := HLEN0.out.2.1; have := HLEN0.out.1; omega)).mono ?_
  rintro e w4_ ⟨rfl, om, oo⟩
  have hs := oo.size
  (repeat (first | rw [World.size_alloc] at hs | rw [World.size_drew] at hs))
  replace kW0 := C2.only kW0 oo (by have := kW0.2.2.2.2; omega)
  replace kG0 := C2.only kG0 oo (by have := kG0.2.2.2.2; omega)
  replace hL := Only.under hL oo (by omega) (by have := hL.size; omega)
  replace hBW := Only.under hBW oo (by omega) (by have := hBW.size; omega)
  replace hc : H2 ≤ w4_.heap.size := by omega
  clear oG0
  have oM0 := Lib.hid om
  clear om oo hs
  go_wp2_with fail
  have hqa0 : ¬ (1 + ((sumLen l0 l0.length : Nat) : Int)) < 0 := by have := HLEN0.out.2.1; have := HLEN0.out.1; omega
  refine (heldNetwork_any rp0 _ l0 (1) _ (oM0.out.keep (by go_grown)).reads HLEN0.out.2.2 (by omega) (by have := HLEN0.out.2.1; have := HLEN0.out.1; omega)).mono ?_
  rintro e w5_ ⟨rfl, hb⟩
  have hx := chain (B := w4_.heap.size) (a := w4_) (by go_grown) (Nat.le_refl _) hb
  have hs := hb.size
  (repeat (first | rw [World.size_alloc] at hs | rw [World.size_drew] at hs))
  replace kW0 := kW0.keep hx
  replace kG0 := kG0.keep hx
  replace oM0 := Lib.hid (oM0.out.keep hx)
  replace hL := chain (B := w.heap.size) (a := w) hL (by first | exact Nat.le_refl _ | simp) hx
  replace hBW := chain (B := w1_.heap.size) (a := w1_) hBW (Nat.le_refl _) hx
  replace hc : H2 ≤ w5_.heap.size := by omega
  clear hx hs hb
  clear hqa0
  go_wp2_with fail
  refine (D1.out  _ ).mono ?_
  rintro e w6_ ⟨Za0, Zc0, rfl, of0, hb⟩
  have hx := chain (B := w5_.heap.size) (a := w5_) (by go_grown) (Nat.le_refl _) hb
  have hs := hb.size
  (repeat (first | rw [World.size_alloc] at hs | rw [World.size_drew] at hs))
  replace kW0 := kW0.keep hx
  replace kG0 := kG0.keep hx
  replace oM0 := Lib.hid (oM0.out.keep hx)
  replace hL := chain (B := w.heap.size) (a := w) hL (by first | exact Nat.le_refl _ | simp) hx
  replace hBW := chain (B := w1_.heap.size) (a := w1_) hBW (Nat.le_refl _) hx
  have oZ0 := Lib.hid of0
  clear of0
  replace hc : H2 ≤ w6_.heap.size := by omega
  clear hx hs hb
  go_wp2_with fail
  refine (eqNetwork_same _ _ _ l0 _ (oZ0.out.keep (by go_grown)).reads (HW0.out.keep (by go_grown))).mono ?_
  rintro e w7_ ⟨rfl, hb⟩
  have hx := chain (B := w6_.heap.size) (a := w6_) (by go_grown) (Nat.le_refl _) hb
  have hs := hb.size
  (repeat (first | rw [World.size_alloc] at hs | rw [World.size_drew] at hs))
  replace kW0 := kW0.keep hx
  replace kG0 := kG0.keep hx
  replace oM0 := Lib.hid (oM0.out.keep hx)
  replace oZ0 := Lib.hid (oZ0.out.keep hx)
  have kZ0 := keepAt hb (C2.here w6_ (.int .i64 rp0) (.slice Za0 l0.length Zc0) 37)
  replace hL := chain (B := w.heap.size) (a := w) hL (by first | exact Nat.le_refl _ | simp) hx
  replace hBW := chain (B := w1_.heap.size) (a := w1_) hBW (Nat.le_refl _) hx
  replace hc : H2 ≤ w7_.heap.size := by omega
  clear hx hs hb
  clear oZ0
  go_wp2_with fail
  have hqb0 : ¬ (1 + ((sumLen l0 l0.length : Nat) : Int)) < 0 := by have := HLEN0.out.2.1; have := HLEN0.out.1; omega
  refine (heldNetwork_any rp0 _ l0 (1) _ (oM0.out.keep (by go_grown)).reads HLEN0.out.2.2 (by omega) (by have := HLEN0.out.2.1; have := HLEN0.out.1; omega)).mono ?_
  rintro e w8_ ⟨rfl, hb⟩
  have hx := chain (B := w7_.heap.size) (a := w7_) (by go_grown) (Nat.le_refl _) hb
  have hs := hb.size
  (repeat (first | rw [World.size_alloc] at hs | rw [World.size_drew] at hs))
  replace kW0 := kW0.keep hx
  replace kG0 := kG0.keep hx
  replace kZ0 := kZ0.keep hx
  replace oM0 := Lib.hid (oM0.out.keep hx)
  replace hL := chain (B := w.heap.size) (a := w) hL (by first | exact Nat.le_refl _ | simp) hx
  replace hBW := chain (B := w1_.heap.size) (a := w1_) hBW (Nat.le_refl _) hx
  replace hc : H2 ≤ w8_.heap.size := by omega
  clear hx hs hb
  go_wp2_with fail
  go_ret
  exact ⟨rfl, by first | assumption | go_grown⟩

end Go.Proofs.Ytibfenkaoaclfaa
