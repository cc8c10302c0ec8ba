/- The walk of FnExactSelectorLoads. -/
import Derived.Test.YtbliibcfnfgdmaaDoorSlo9
import Derived.Test.YtbliibcfnfgdmaaDoorLkL
import Derived.Test.YtbliibcfnfgdmaaDoorRowRd
import Derived.Test.YtbliibcfnfgdmaaDoorTool
namespace Go.Proofs.YtbliibcfnfgdmaaDoor
open Go.RowKit
set_option linter.unusedVariables false

set_option maxRecDepth 100000 in
set_option maxHeartbeats 8000000 in
theorem walkFnExactSelectorLoads (x0 : Int) (wx0 : (Lit.int .i64 x0).wf = true) (s1 : ByteArray) (hs1 : s1.size ≤ maxLen) (w : World)  :
    Calls Tryd.prog 4 #[.int .i64 x0, .string s1] w fun e w' => e = .returned (.bool true) ∧ Below w.heap.size w w' := by
  by_cases hbig1 : (1048576 : Int) < (s1.size : Int)
  · skip
    go_enter Tryd.func4, Tryd.ntmps4
    go_wp2_with (fail)
    go_ret
    exact ⟨rfl, by first | exact Below.refl _ _ | go_grown⟩
  · have hlen1 : Hid ((s1.size : Int) ≤ 1048576) := by unfold Hid; omega
    have hsz1 : s1.size ≤ 1048576 := by omega
    have hL0 : Below w.heap.size w w := Below.refl _ _
    obtain ⟨l0, hr_l0⟩ : ∃ x : List Int, resSelectorLoads_0 x0 s1 = x := ⟨_, rfl⟩
    have HLEN0 : Hid (l0.length ≤ 100000) := by rw [← hr_l0]; exact lenSelectorLoads_0 x0 s1
    obtain ⟨c1, hr_c1⟩ : ∃ x : Int, resSelectorLoads_1 x0 s1 = x := ⟨_, rfl⟩
    have D1 : Hid (∀ (w : World), Calls Tryd.prog 8 #[.int .i64 x0, .string s1] w fun e w' => ∃ u0, e = .returned (.tuple #[u0, .int .i64 c1]) ∧ In w' w.heap.size w'.heap.size (u0) l0 ∧ Below w.heap.size w w') := fun  w  => by subst hr_l0 hr_c1; exact iSelectorLoads_any x0 s1 hsz1 w 
    have D2 : Hid (∀ (w : World), Calls Tryd.prog 7 #[.int .i64 x0, .string s1] w fun e w' => ∃ u0, e = .returned (.tuple #[u0, .int .i64 c1]) ∧ Reads w' (u0) l0 ∧ Below w.heap.size w w') := fun  w  => by subst hr_l0 hr_c1; exact sSelectorLoads_any x0 s1 hsz1 w 
    clear hr_l0 hr_c1
    have hL := hL0
    clear hL0
    obtain ⟨H0, hH0, hc⟩ : ∃ H, w.heap.size + 0 ≤ H ∧ H ≤ w.heap.size + 0 := ⟨_, Nat.le_refl _, Nat.le_refl _⟩
    have hHU0 := hc
    go_enter Tryd.func4, Tryd.ntmps4
    go_wp2_with fail
    refine (D2.out  _ ).mono ?_
    rintro e w1_ ⟨Wu0, rfl, of0, hb⟩
    have hx := chain (B := w.heap.size) (a := w) (by go_grown) (Nat.le_refl _) hb
    have hs := hb.size
    (repeat (first | rw [World.size_alloc] at hs | rw [World.size_drew] at hs))
    replace hL := chain (B := w.heap.size) (a := w) hL (by first | exact Nat.le_refl _ | simp) hx
    have HW0 := Lib.hid of0
    replace hc : H0 ≤ w1_.heap.size := by omega
    clear hx hs hb of0
    have hBW : Below w1_.heap.size w1_ w1_ := Below.refl _ _
    obtain ⟨H1, hH1, hcn⟩ : ∃ H, w1_.heap.size ≤ H ∧ H ≤ w1_.heap.size := ⟨_, Nat.le_refl _, Nat.le_refl _⟩
    have hHH1 : H0 ≤ H1 := by omega
    have hHU1 := hcn
    clear hc
    have hc := hcn
    clear hcn
    go_wp2_with fail
    refine (D1.out  _ ).mono ?_
    rintro e w2_ ⟨Gu0, rfl, of0, hb⟩
    have hx := chain (B := w1_.heap.size) (a := w1_) (by go_grown) (Nat.le_refl _) hb
    have hs := hb.size
    (repeat (first | rw [World.size_alloc] at hs | rw [World.size_drew] at hs))
    replace hL := chain (B := w.heap.size) (a := w) hL (by first | exact Nat.le_refl _ | simp) hx
    replace hBW := chain (B := w1_.heap.size) (a := w1_) hBW (Nat.le_refl _) hx
    (repeat (first | rw [World.size_alloc] at of0 | rw [World.size_drew] at of0))
    obtain ⟨H2, hH2, hcn⟩ : ∃ H, w2_.heap.size ≤ H ∧ H ≤ w2_.heap.size := ⟨_, Nat.le_refl _, Nat.le_refl _⟩
    have hHH2 : H1 ≤ H2 := by omega
    have hco := hc
    have hHU2 := hcn
    clear hc
    have hc := hcn
    clear hcn
    have oG0 := Lib.hid (of0.monoI (B' := H1) (C' := H2) (by omega) (by omega))
    clear of0
    clear hx hs hb hco
    go_wp2_with fail
    refine (eqInt64S_same _ _ l0 _ (oG0.out.keep (by go_grown)).reads (HW0.out.keep (by go_grown))).mono ?_
    rintro e w3_ ⟨rfl, hb⟩
    have hx := chain (B := w2_.heap.size) (a := w2_) (by go_grown) (Nat.le_refl _) hb
    have hs := hb.size
    (repeat (first | rw [World.size_alloc] at hs | rw [World.size_drew] at hs))
    replace oG0 := Lib.hid (oG0.out.keep hx)
    replace hL := chain (B := w.heap.size) (a := w) hL (by first | exact Nat.le_refl _ | simp) hx
    replace hBW := chain (B := w1_.heap.size) (a := w1_) hBW (Nat.le_refl _) hx
    replace hc : H2 ≤ w3_.heap.size := by omega
    clear hx hs hb
    go_wp2_with fail
    refine (markIn_any _ _ _ l0 (1) _ oG0.out (by have := HLEN0.out; omega) (by omega) (by have := HLEN0.out; omega)).mono ?_
    rintro e w4_ ⟨rfl, om, oo⟩
    have hs := oo.size
    (repeat (first | rw [World.size_alloc] at hs | rw [World.size_drew] at hs))
    replace hL := Only.under hL oo (by omega) (by have := hL.size; omega)
    replace hBW := Only.under hBW oo (by omega) (by have := hBW.size; omega)
    replace hc : H2 ≤ w4_.heap.size := by omega
    clear oG0
    have oM0 := Lib.hid om
    clear om oo hs
    go_wp2_with fail
    have hqa0 : ¬ (1 + (l0.length : Int)) < 0 := by have := HLEN0.out; omega
    refine (heldInt64S_any _ l0.length (1) _ (oM0.out.keep (by go_grown)).reads (by have := HLEN0.out; omega) (by omega) (by have := HLEN0.out; omega)).mono ?_
    rintro e w5_ ⟨rfl, hb⟩
    have hx := chain (B := w4_.heap.size) (a := w4_) (by go_grown) (Nat.le_refl _) hb
    have hs := hb.size
    (repeat (first | rw [World.size_alloc] at hs | rw [World.size_drew] at hs))
    replace oM0 := Lib.hid (oM0.out.keep hx)
    replace hL := chain (B := w.heap.size) (a := w) hL (by first | exact Nat.le_refl _ | simp) hx
    replace hBW := chain (B := w1_.heap.size) (a := w1_) hBW (Nat.le_refl _) hx
    replace hc : H2 ≤ w5_.heap.size := by omega
    clear hx hs hb
    clear hqa0
    go_wp2_with fail
    refine (D1.out  _ ).mono ?_
    rintro e w6_ ⟨Zu0, rfl, of0, hb⟩
    have hx := chain (B := w5_.heap.size) (a := w5_) (by go_grown) (Nat.le_refl _) hb
    have hs := hb.size
    (repeat (first | rw [World.size_alloc] at hs | rw [World.size_drew] at hs))
    replace oM0 := Lib.hid (oM0.out.keep hx)
    replace hL := chain (B := w.heap.size) (a := w) hL (by first | exact Nat.le_refl _ | simp) hx
    replace hBW := chain (B := w1_.heap.size) (a := w1_) hBW (Nat.le_refl _) hx
    have oZ0 := Lib.hid of0
    clear of0
    replace hc : H2 ≤ w6_.heap.size := by omega
    clear hx hs hb
    go_wp2_with fail
    refine (eqInt64S_same _ _ l0 _ (oZ0.out.keep (by go_grown)).reads (HW0.out.keep (by go_grown))).mono ?_
    rintro e w7_ ⟨rfl, hb⟩
    have hx := chain (B := w6_.heap.size) (a := w6_) (by go_grown) (Nat.le_refl _) hb
    have hs := hb.size
    (repeat (first | rw [World.size_alloc] at hs | rw [World.size_drew] at hs))
    replace oM0 := Lib.hid (oM0.out.keep hx)
    replace oZ0 := Lib.hid (oZ0.out.keep hx)
    replace hL := chain (B := w.heap.size) (a := w) hL (by first | exact Nat.le_refl _ | simp) hx
    replace hBW := chain (B := w1_.heap.size) (a := w1_) hBW (Nat.le_refl _) hx
    replace hc : H2 ≤ w7_.heap.size := by omega
    clear hx hs hb
    clear oZ0
    go_wp2_with fail
    have hqb0 : ¬ (1 + (l0.length : Int)) < 0 := by have := HLEN0.out; omega
    refine (heldInt64S_any _ l0.length (1) _ (oM0.out.keep (by go_grown)).reads (by have := HLEN0.out; omega) (by omega) (by have := HLEN0.out; omega)).mono ?_
    rintro e w8_ ⟨rfl, hb⟩
    have hx := chain (B := w7_.heap.size) (a := w7_) (by go_grown) (Nat.le_refl _) hb
    have hs := hb.size
    (repeat (first | rw [World.size_alloc] at hs | rw [World.size_drew] at hs))
    replace oM0 := Lib.hid (oM0.out.keep hx)
    replace hL := chain (B := w.heap.size) (a := w) hL (by first | exact Nat.le_refl _ | simp) hx
    replace hBW := chain (B := w1_.heap.size) (a := w1_) hBW (Nat.le_refl _) hx
    replace hc : H2 ≤ w8_.heap.size := by omega
    clear hx hs hb
    go_wp2_with fail
    go_ret
    exact ⟨rfl, by first | assumption | go_grown⟩

end Go.Proofs.YtbliibcfnfgdmaaDoor
