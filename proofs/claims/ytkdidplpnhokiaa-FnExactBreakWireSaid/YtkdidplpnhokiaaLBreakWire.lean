/- The walk of FnExactBreakWire. -/
import Derived.Test.YtkdidplpnhokiaaBrs
import Derived.Test.YtkdidplpnhokiaaTool
namespace Go.Proofs.Ytkdidplpnhokiaa
open Go.RowKit
set_option linter.unusedVariables false

set_option maxRecDepth 100000 in
set_option maxHeartbeats 8000000 in
theorem walkFnExactBreakWire (va0 : Value) (p0 : Int) (xss0 : List Int) (yss0 : List (List Int)) (x1 : Int) (wx1 : (Lit.int .i64 x1).wf = true) (w : World) (ha0 : ReadsW w va0 p0 xss0 yss0) :
    Calls Try.prog 10 #[va0, .int .i64 x1] w fun e w' => e = .returned (.bool true) ∧ Below w.heap.size w w' := by
  have HR0 := Lib.hid ha0
  obtain ⟨a0, ca0, b0, cb0, rfl, _, _⟩ := ha0
  have kp0 : C3 (w.alloc (.cells #[.int .i64 p0, .slice a0 xss0.length ca0, .slice b0 yss0.length cb0] 25)) (w.heap.size) (.int .i64 p0) (.slice a0 xss0.length ca0) (.slice b0 yss0.length cb0) := by simpa using C3.here w (.int .i64 p0) (.slice a0 xss0.length ca0) (.slice b0 yss0.length cb0) 25
  have hL0 : Below w.heap.size w (w.alloc (.cells #[.int .i64 p0, .slice a0 xss0.length ca0, .slice b0 yss0.length cb0] 25)) := (Below.refl _ _).alloc (by simp) (.cells #[.int .i64 p0, .slice a0 xss0.length ca0, .slice b0 yss0.length cb0] 25)
  obtain ⟨z0, hz0⟩ : ∃ z, szW 1048576 xss0 yss0 = z := ⟨_, rfl⟩
  have HZ0 := Lib.hid hz0
  have ZB0 : Hid ((0 : Int) ≤ 1048576 ∧ (1048576 : Int) ≤ 1048576) := by unfold Hid; omega
  by_cases hzn0 : z0 = -1
  · subst hzn0
    clear hz0
    have hL := hL0
    clear hL0
    go_enter Try.func10, Try.ntmps10
    go_wp2_with fail
    refine (szWiring_any _ _ xss0 yss0 1048576 _ (HR0.out.keep (by go_grown)) ZB0.out.1 ZB0.out.2 HZ0.out).mono ?_
    rintro e we0 ⟨rfl, hb⟩
    replace hL := chain (B := w.heap.size) (a := w) hL (Nat.le_refl _) hb
    replace kp0 := keepAt3 hb kp0
    clear hb
    go_wp2_with fail
    go_ret
    exact ⟨rfl, hL⟩
  · obtain ⟨hfit0, hz00, hze0⟩ := purseW hz0 hzn0 (by omega)
    have HF0 := Lib.hid hfit0
    have HZE0 := Lib.hid hze0
    have hzneg0 : ¬ z0 < 0 := by omega
    have hzle0 : z0 ≤ 1048576 := by omega
    clear hz0 hzn0 hfit0 hze0
    obtain ⟨rp0, hr_rp0⟩ : ∃ x : Int, resBreakWire_0p p0 xss0 yss0 x1 = x := ⟨_, rfl⟩
    obtain ⟨l0, hr_l0⟩ : ∃ x : List Int, resBreakWire_0 p0 xss0 yss0 x1 = x := ⟨_, rfl⟩
    obtain ⟨m0, hr_m0⟩ : ∃ x : List (List Int), resBreakWire_0o p0 xss0 yss0 x1 = x := ⟨_, rfl⟩
    have HLEN0 : Hid (FitW 1000000 l0 m0) := by rw [← hr_l0, ← hr_m0]; exact lenBreakWire_0 p0 xss0 yss0 x1
    obtain ⟨c1, hr_c1⟩ : ∃ x : Int, resBreakWire_1 p0 xss0 yss0 x1 = x := ⟨_, rfl⟩
    have D1 : Hid (∀ (u_0 : Value) (w : World), ReadsWF w u_0 p0 xss0 yss0 → Calls Try.prog 39 #[u_0, .int .i64 x1] w fun e w' => ∃ sa0 sc0 sb0 sd0, e = .returned (.tuple #[.agg #[.int .i64 rp0, .slice sa0 l0.length sc0, .slice sb0 m0.length sd0], .int .i64 c1]) ∧ OwnW w' w.heap.size w'.heap.size (.agg #[.int .i64 rp0, .slice sa0 l0.length sc0, .slice sb0 m0.length sd0]) rp0 l0 m0 ∧ Below w.heap.size w w') := fun u_0 w h0 => by subst hr_rp0 hr_l0 hr_m0 hr_c1; exact iBreakWire_any u_0 p0 xss0 yss0 x1 w h0
    have D2 : Hid (∀ (u_0 : Value) (w : World), ReadsW w u_0 p0 xss0 yss0 → Calls Try.prog 38 #[u_0, .int .i64 x1] w fun e w' => ∃ sa0 sc0 sb0 sd0, e = .returned (.tuple #[.agg #[.int .i64 rp0, .slice sa0 l0.length sc0, .slice sb0 m0.length sd0], .int .i64 c1]) ∧ ReadsW w' (.agg #[.int .i64 rp0, .slice sa0 l0.length sc0, .slice sb0 m0.length sd0]) rp0 l0 m0 ∧ Below w.heap.size w w') := fun u_0 w h0 => by subst hr_rp0 hr_l0 hr_m0 hr_c1; exact sBreakWire_any u_0 p0 xss0 yss0 x1 w h0
    clear hr_rp0 hr_l0 hr_m0 hr_c1
    have hL := hL0
    clear hL0
    obtain ⟨H0, hH0, hc⟩ : ∃ H, w.heap.size + 1 ≤ H ∧ H ≤ w.heap.size + 1 := ⟨_, Nat.le_refl _, Nat.le_refl _⟩
    have hHU0 := hc
    go_enter Try.func10, Try.ntmps10
    go_wp2_with fail
    refine (szWiring_any _ _ xss0 yss0 1048576 _ (HR0.out.keep (by go_grown)) ZB0.out.1 ZB0.out.2 HZ0.out).mono ?_
    rintro e w1_ ⟨rfl, hb⟩
    have hx := chain (B := (w.alloc (.cells #[.int .i64 p0, .slice a0 xss0.length ca0, .slice b0 yss0.length cb0] 25)).heap.size) (a := (w.alloc (.cells #[.int .i64 p0, .slice a0 xss0.length ca0, .slice b0 yss0.length cb0] 25))) (by go_grown) (Nat.le_refl _) hb
    have hs := hb.size
    (repeat (first | rw [World.size_alloc] at hs | rw [World.size_drew] at hs))
    replace kp0 := kp0.keep hx
    replace hL := chain (B := w.heap.size) (a := w) hL (by first | exact Nat.le_refl _ | simp) hx
    replace hc : H0 ≤ w1_.heap.size := by omega
    clear hx hs hb
    go_wp2_with fail
    refine (toWiring_x _ _ xss0 yss0 _ (HR0.out.keep (by go_grown)) HF0.out).mono ?_
    rintro e w2_ ⟨na0, nc0, nb0, nd0, nB0, nC0, rfl, on, hB, ⟨hBC, hC⟩, hb⟩
    have hx := chain (B := w1_.heap.size) (a := w1_) (by go_grown) (Nat.le_refl _) hb
    have hs := hb.size
    (repeat (first | rw [World.size_alloc] at hs | rw [World.size_drew] at hs))
    replace kp0 := kp0.keep hx
    replace hL := chain (B := w.heap.size) (a := w) hL (by first | exact Nat.le_refl _ | simp) hx
    have on0 := Lib.hid on
    replace hc : H0 ≤ w2_.heap.size := by omega
    clear hx hs hb hB hBC hC on
    go_wp2_with fail
    refine (D2.out _ _ on0.out.reads).mono ?_
    rintro e w3_ ⟨Wa0, Wc0, Wb0, Wd0, rfl, of0, hb⟩
    have hx := chain (B := w2_.heap.size) (a := w2_) (by go_grown) (Nat.le_refl _) hb
    have hs := hb.size
    (repeat (first | rw [World.size_alloc] at hs | rw [World.size_drew] at hs))
    replace kp0 := kp0.keep hx
    replace on0 := Lib.hid (on0.out.keep hx)
    replace hL := chain (B := w.heap.size) (a := w) hL (by first | exact Nat.le_refl _ | simp) hx
    have HW0 := Lib.hid of0
    replace hc : H0 ≤ w3_.heap.size := by omega
    clear hx hs hb of0
    clear on0
    have hBW : Below w3_.heap.size w3_ w3_ := Below.refl _ _
    obtain ⟨H1, hH1, hcn⟩ : ∃ H, w3_.heap.size + 1 ≤ H ∧ H ≤ w3_.heap.size + 1 := ⟨_, Nat.le_refl _, Nat.le_refl _⟩
    have hHH1 : H0 ≤ H1 := by omega
    have hHU1 := hcn
    clear hc
    have hc := hcn
    clear hcn
    go_wp2_with fail
    refine (toWiring_x _ _ xss0 yss0 _ (HR0.out.keep (by go_grown)) HF0.out).mono ?_
    rintro e w4_ ⟨xa0, xc0, xb0, xd0, xB0, xC0, rfl, on, hB, ⟨hBC, hC⟩, hb⟩
    have hx := chain (B := w3_.heap.size) (a := w3_) (by go_grown) (Nat.le_refl _) hb
    have hs := hb.size
    (repeat (first | rw [World.size_alloc] at hs | rw [World.size_drew] at hs))
    replace kp0 := kp0.keep hx
    have kW0 := keepAt3 hb (C3.here w3_ (.int .i64 rp0) (.slice Wa0 l0.length Wc0) (.slice Wb0 m0.length Wd0) 28)
    replace hL := chain (B := w.heap.size) (a := w) hL (by first | exact Nat.le_refl _ | simp) hx
    replace hBW := chain (B := w3_.heap.size) (a := w3_) hBW (Nat.le_refl _) hx
    (repeat (first | rw [World.size_alloc] at hB | rw [World.size_drew] at hB))
    have hLO0 : H1 ≤ xB0 := by omega
    have hHI0 := hC
    obtain ⟨H2, hH2, hcn⟩ : ∃ H, w4_.heap.size + 1 ≤ H ∧ H ≤ w4_.heap.size + 1 := ⟨_, Nat.le_refl _, Nat.le_refl _⟩
    have hHH2 : H1 ≤ H2 := by omega
    have hHU2 := hcn
    clear hc
    have hc := hcn
    clear hcn
    clear hx hs hb hB hC
    have ox0 := Lib.hid on
    clear on
    have hBC0 := hBC
    clear hBC
    go_wp2_with fail
    refine (D1.out _ _ (ox0.out.keep (by first | go_grown | exact (Below.refl _ _).alloc (Nat.le_refl _) _)).readsF).mono ?_
    rintro e w5_ ⟨Ga0, Gc0, Gb0, Gd0, rfl, of0, hb⟩
    have hx := chain (B := w4_.heap.size) (a := w4_) (by go_grown) (Nat.le_refl _) hb
    have hs := hb.size
    (repeat (first | rw [World.size_alloc] at hs | rw [World.size_drew] at hs))
    replace kp0 := kp0.keep hx
    replace kW0 := kW0.keep hx
    replace ox0 := Lib.hid (ox0.out.keep hx)
    have kx0 := keepAt3 hb (C3.here w4_ (.int .i64 p0) (.slice xa0 xss0.length xc0) (.slice xb0 yss0.length xd0) 28)
    replace hL := chain (B := w.heap.size) (a := w) hL (by first | exact Nat.le_refl _ | simp) hx
    replace hBW := chain (B := w3_.heap.size) (a := w3_) hBW (Nat.le_refl _) hx
    (repeat (first | rw [World.size_alloc] at of0 | rw [World.size_drew] at of0))
    obtain ⟨H3, hH3, hcn⟩ : ∃ H, w5_.heap.size ≤ H ∧ H ≤ w5_.heap.size := ⟨_, Nat.le_refl _, Nat.le_refl _⟩
    have hHH3 : H2 ≤ H3 := by omega
    have hco := hc
    have hHU3 := hcn
    clear hc
    have hc := hcn
    clear hcn
    have oG0 := Lib.hid (of0.mono (B' := H2) (C' := H3) (by omega) (by omega))
    clear of0
    clear hx hs hb hco
    go_wp2_with fail
    refine (eqWiring_same _ _ _ l0 m0 _ (oG0.out.keep (by go_grown)).reads (HW0.out.keep (by go_grown))).mono ?_
    rintro e w6_ ⟨rfl, hb⟩
    have hx := chain (B := w5_.heap.size) (a := w5_) (by go_grown) (Nat.le_refl _) hb
    have hs := hb.size
    (repeat (first | rw [World.size_alloc] at hs | rw [World.size_drew] at hs))
    replace kp0 := kp0.keep hx
    replace kW0 := kW0.keep hx
    replace kx0 := kx0.keep hx
    replace ox0 := Lib.hid (ox0.out.keep hx)
    replace oG0 := Lib.hid (oG0.out.keep hx)
    have kG0 := keepAt3 hb (C3.here w5_ (.int .i64 rp0) (.slice Ga0 l0.length Gc0) (.slice Gb0 m0.length Gd0) 28)
    replace hL := chain (B := w.heap.size) (a := w) hL (by first | exact Nat.le_refl _ | simp) hx
    replace hBW := chain (B := w3_.heap.size) (a := w3_) hBW (Nat.le_refl _) hx
    replace hc : H3 ≤ w6_.heap.size := by omega
    clear hx hs hb
    go_wp2_with fail
    have RXd := Lib.hid ox0.out.reads
    go_upto_region 10 with fail
    go_region_held3 (fun w' => C3 w' w4_.heap.size (.int .i64 p0) (.slice xa0 xss0.length xc0) (.slice xb0 yss0.length xd0) ∧ C3 w' (w.heap.size) (.int .i64 p0) (.slice a0 xss0.length ca0) (.slice b0 yss0.length cb0)) ((first | (refine ⟨?_, ?_⟩ <;> ((repeat' (first | (with_reducible assumption) | (with_reducible refine C2.drewU ?_) | (with_reducible refine C2.alloc ?_ _) | (with_reducible refine C2.set ?_ _ _ _ (by omega)) | (with_reducible refine C3.drewU ?_) | (with_reducible refine C3.alloc ?_ _) | (with_reducible refine C3.set ?_ _ _ _ (by omega)))); done)) | ((repeat' (first | (with_reducible assumption) | (with_reducible refine C2.drewU ?_) | (with_reducible refine C2.alloc ?_ _) | (with_reducible refine C2.set ?_ _ _ _ (by omega)) | (with_reducible refine C3.drewU ?_) | (with_reducible refine C3.alloc ?_ _) | (with_reducible refine C3.set ?_ _ _ _ (by omega)))); done))) (first | (go_at_call 17; (with_reducible refine (toWiring_x _ _ xss0 yss0 _ (HR0.out.keep (by go_grown)) HF0.out).mono ?_); rintro e wq0 ⟨ya, yc, yb, yd, yB, yC, rfl, oy, yhB, yhC, hb⟩; have hs := hb.size; (repeat (first | rw [World.size_alloc] at hs | rw [World.size_drew] at hs)); have hL := chain (B := w.heap.size) (a := w) (by go_grown) (Nat.le_refl _) hb; have hBW := chain (B := w3_.heap.size) (a := w3_) (by go_grown) (Nat.le_refl _) hb; replace kp0 := keepAt3 hb (show C3 _ (w.heap.size) (.int .i64 p0) (.slice a0 xss0.length ca0) (.slice b0 yss0.length cb0) from by (repeat' (first | (with_reducible assumption) | (with_reducible refine C2.drewU ?_) | (with_reducible refine C2.alloc ?_ _) | (with_reducible refine C3.drewU ?_) | (with_reducible refine C3.alloc ?_ _)))); replace kW0 := keepAt3 hb (show C3 _ w3_.heap.size (.int .i64 rp0) (.slice Wa0 l0.length Wc0) (.slice Wb0 m0.length Wd0) from by (repeat' (first | (with_reducible assumption) | (with_reducible refine C2.drewU ?_) | (with_reducible refine C2.alloc ?_ _) | (with_reducible refine C3.drewU ?_) | (with_reducible refine C3.alloc ?_ _)))); replace kx0 := keepAt3 hb (show C3 _ w4_.heap.size (.int .i64 p0) (.slice xa0 xss0.length xc0) (.slice xb0 yss0.length xd0) from by (repeat' (first | (with_reducible assumption) | (with_reducible refine C2.drewU ?_) | (with_reducible refine C2.alloc ?_ _) | (with_reducible refine C3.drewU ?_) | (with_reducible refine C3.alloc ?_ _)))); replace kG0 := keepAt3 hb (show C3 _ w5_.heap.size (.int .i64 rp0) (.slice Ga0 l0.length Gc0) (.slice Gb0 m0.length Gd0) from by (repeat' (first | (with_reducible assumption) | (with_reducible refine C2.drewU ?_) | (with_reducible refine C2.alloc ?_ _) | (with_reducible refine C3.drewU ?_) | (with_reducible refine C3.alloc ?_ _)))); replace ox0 := Lib.hid (ownWAt hb ox0.out); replace oG0 := Lib.hid (ownWAt hb oG0.out); have RY := Lib.hid oy.reads; replace RXd := Lib.hid (readsWAt hb RXd.out); clear hb oy yhB yhC) | (go_at_call 19; (with_reducible refine (eqWiring_same _ _ _ xss0 yss0 _ RXd.out RY.out).mono ?_); rintro e wd0 ⟨rfl, hb⟩; have hs2 := hb.size; (repeat (first | rw [World.size_alloc] at hs2 | rw [World.size_drew] at hs2)); have hL := chain (B := w.heap.size) (a := w) (by go_grown) (Nat.le_refl _) hb; have hBW := chain (B := w3_.heap.size) (a := w3_) (by go_grown) (Nat.le_refl _) hb; replace kp0 := keepAt3 hb (show C3 _ (w.heap.size) (.int .i64 p0) (.slice a0 xss0.length ca0) (.slice b0 yss0.length cb0) from by (repeat' (first | (with_reducible assumption) | (with_reducible refine C2.drewU ?_) | (with_reducible refine C2.alloc ?_ _) | (with_reducible refine C3.drewU ?_) | (with_reducible refine C3.alloc ?_ _)))); replace kW0 := keepAt3 hb (show C3 _ w3_.heap.size (.int .i64 rp0) (.slice Wa0 l0.length Wc0) (.slice Wb0 m0.length Wd0) from by (repeat' (first | (with_reducible assumption) | (with_reducible refine C2.drewU ?_) | (with_reducible refine C2.alloc ?_ _) | (with_reducible refine C3.drewU ?_) | (with_reducible refine C3.alloc ?_ _)))); replace kx0 := keepAt3 hb (show C3 _ w4_.heap.size (.int .i64 p0) (.slice xa0 xss0.length xc0) (.slice xb0 yss0.length xd0) from by (repeat' (first | (with_reducible assumption) | (with_reducible refine C2.drewU ?_) | (with_reducible refine C2.alloc ?_ _) | (with_reducible refine C3.drewU ?_) | (with_reducible refine C3.alloc ?_ _)))); replace kG0 := keepAt3 hb (show C3 _ w5_.heap.size (.int .i64 rp0) (.slice Ga0 l0.length Gc0) (.slice Gb0 m0.length Gd0) from by (repeat' (first | (with_reducible assumption) | (with_reducible refine C2.drewU ?_) | (with_reducible refine C2.alloc ?_ _) | (with_reducible refine C3.drewU ?_) | (with_reducible refine C3.alloc ?_ _)))); replace ox0 := Lib.hid (ownWAt hb ox0.out); replace oG0 := Lib.hid (ownWAt hb oG0.out); clear hb RXd RY))
    have hcn : H3 ≤ wd0.heap.size := by omega
    clear hc hs hs2
    have hc := hcn
    clear hcn
    go_wp2_with fail
    clear kx0
    refine (markWiring_any _ _ _ _ xss0 yss0 (1) _ ox0.out (by omega) HF0.out.l1 HF0.out.l2 (by omega) (by have := HF0.out.sum; have := HZE0.out; omega)).mono ?_
    rintro e w7_ ⟨rfl, om, oo⟩
    have hs := oo.size
    (repeat (first | rw [World.size_alloc] at hs | rw [World.size_drew] at hs))
    replace kp0 := C3.only kp0 oo (by have := kp0.lt; omega)
    replace kW0 := C3.only kW0 oo (by have := kW0.lt; omega)
    replace kG0 := C3.only kG0 oo (by have := kG0.lt; omega)
    replace oG0 := Lib.hid (oG0.out.only oo (by omega))
    replace hL := Only.under hL oo (by omega) (by have := hL.size; omega)
    replace hBW := Only.under hBW oo (by omega) (by have := hBW.size; omega)
    replace hc : H3 ≤ w7_.heap.size := by omega
    clear ox0
    clear om oo hs
    have hneg : ¬ (1 + (xss0.length : Int) + ((sumLen yss0 yss0.length : Nat) : Int)) < 0 := by have := HF0.out.sum; have := HZE0.out; omega
    go_wp2_with fail
    refine (eqWiring_same _ _ _ l0 m0 _ (oG0.out.keep (by go_grown)).reads (HW0.out.keep (by go_grown))).mono ?_
    rintro e w8_ ⟨rfl, hb⟩
    have hx := chain (B := w7_.heap.size) (a := w7_) (by go_grown) (Nat.le_refl _) hb
    have hs := hb.size
    (repeat (first | rw [World.size_alloc] at hs | rw [World.size_drew] at hs))
    replace kp0 := kp0.keep hx
    replace kW0 := kW0.keep hx
    replace kG0 := kG0.keep hx
    replace oG0 := Lib.hid (oG0.out.keep hx)
    replace hL := chain (B := w.heap.size) (a := w) hL (by first | exact Nat.le_refl _ | simp) hx
    replace hBW := chain (B := w3_.heap.size) (a := w3_) hBW (Nat.le_refl _) hx
    replace hc : H3 ≤ w8_.heap.size := by omega
    clear hx hs hb
    go_wp2_with fail
    refine (markWiring_any _ _ _ _ l0 m0 (1) _ oG0.out (by omega) HLEN0.out.l1 HLEN0.out.l2 (by omega) (by have := HLEN0.out.sum; omega)).mono ?_
    rintro e w9_ ⟨rfl, om, oo⟩
    have hs := oo.size
    (repeat (first | rw [World.size_alloc] at hs | rw [World.size_drew] at hs))
    replace kp0 := C3.only kp0 oo (by have := kp0.lt; omega)
    replace kW0 := C3.only kW0 oo (by have := kW0.lt; omega)
    replace kG0 := C3.only kG0 oo (by have := kG0.lt; omega)
    replace hL := Only.under hL oo (by omega) (by have := hL.size; omega)
    replace hBW := Only.under hBW oo (by omega) (by have := hBW.size; omega)
    replace hc : H3 ≤ w9_.heap.size := by omega
    clear oG0
    have oM0 := Lib.hid om
    clear om oo hs
    go_wp2_with fail
    have hqa0 : ¬ (1 + (l0.length : Int) + ((sumLen m0 m0.length : Nat) : Int)) < 0 := by have := HLEN0.out.sum; omega
    refine (heldWiring_any _ _ l0 m0 (1) _ (oM0.out.keep (by go_grown)).reads HLEN0.out.l1 HLEN0.out.l2 (by omega) (by have := HLEN0.out.sum; omega)).mono ?_
    rintro e w10_ ⟨rfl, hb⟩
    have hx := chain (B := w9_.heap.size) (a := w9_) (by go_grown) (Nat.le_refl _) hb
    have hs := hb.size
    (repeat (first | rw [World.size_alloc] at hs | rw [World.size_drew] at hs))
    replace kp0 := kp0.keep hx
    replace kW0 := kW0.keep hx
    replace kG0 := kG0.keep hx
    replace oM0 := Lib.hid (oM0.out.keep hx)
    replace hL := chain (B := w.heap.size) (a := w) hL (by first | exact Nat.le_refl _ | simp) hx
    replace hBW := chain (B := w3_.heap.size) (a := w3_) hBW (Nat.le_refl _) hx
    replace hc : H3 ≤ w10_.heap.size := by omega
    clear hx hs hb
    clear hqa0
    go_wp2_with fail
    refine (toWiring_x _ _ xss0 yss0 _ (HR0.out.keep (by go_grown)) HF0.out).mono ?_
    rintro e w11_ ⟨ha0, hc0, hb0, hd0, hB0, hC0, rfl, on, hB, ⟨hBC, hC⟩, hb⟩
    have hx := chain (B := w10_.heap.size) (a := w10_) (by go_grown) (Nat.le_refl _) hb
    have hs := hb.size
    (repeat (first | rw [World.size_alloc] at hs | rw [World.size_drew] at hs))
    replace kp0 := kp0.keep hx
    replace kW0 := kW0.keep hx
    replace kG0 := kG0.keep hx
    replace oM0 := Lib.hid (oM0.out.keep hx)
    replace hL := chain (B := w.heap.size) (a := w) hL (by first | exact Nat.le_refl _ | simp) hx
    replace hBW := chain (B := w3_.heap.size) (a := w3_) hBW (Nat.le_refl _) hx
    have oh0 := Lib.hid on
    replace hc : H3 ≤ w11_.heap.size := by omega
    clear hx hs hb hB hBC hC on
    go_wp2_with fail
    refine (D1.out _ _ oh0.out.readsF).mono ?_
    rintro e w12_ ⟨Za0, Zc0, Zb0, Zd0, rfl, of0, hb⟩
    have hx := chain (B := w11_.heap.size) (a := w11_) (by go_grown) (Nat.le_refl _) hb
    have hs := hb.size
    (repeat (first | rw [World.size_alloc] at hs | rw [World.size_drew] at hs))
    replace kp0 := kp0.keep hx
    replace kW0 := kW0.keep hx
    replace kG0 := kG0.keep hx
    replace oM0 := Lib.hid (oM0.out.keep hx)
    replace oh0 := Lib.hid (oh0.out.keep hx)
    replace hL := chain (B := w.heap.size) (a := w) hL (by first | exact Nat.le_refl _ | simp) hx
    replace hBW := chain (B := w3_.heap.size) (a := w3_) hBW (Nat.le_refl _) hx
    have oZ0 := Lib.hid of0
    clear of0
    replace hc : H3 ≤ w12_.heap.size := by omega
    clear hx hs hb
    clear oh0
    go_wp2_with fail
    refine (eqWiring_same _ _ _ l0 m0 _ (oZ0.out.keep (by go_grown)).reads (HW0.out.keep (by go_grown))).mono ?_
    rintro e w13_ ⟨rfl, hb⟩
    have hx := chain (B := w12_.heap.size) (a := w12_) (by go_grown) (Nat.le_refl _) hb
    have hs := hb.size
    (repeat (first | rw [World.size_alloc] at hs | rw [World.size_drew] at hs))
    replace kp0 := kp0.keep hx
    replace kW0 := kW0.keep hx
    replace kG0 := kG0.keep hx
    replace oM0 := Lib.hid (oM0.out.keep hx)
    replace oZ0 := Lib.hid (oZ0.out.keep hx)
    have kZ0 := keepAt3 hb (C3.here w12_ (.int .i64 rp0) (.slice Za0 l0.length Zc0) (.slice Zb0 m0.length Zd0) 28)
    replace hL := chain (B := w.heap.size) (a := w) hL (by first | exact Nat.le_refl _ | simp) hx
    replace hBW := chain (B := w3_.heap.size) (a := w3_) hBW (Nat.le_refl _) hx
    replace hc : H3 ≤ w13_.heap.size := by omega
    clear hx hs hb
    clear oZ0
    go_wp2_with fail
    have hqb0 : ¬ (1 + (l0.length : Int) + ((sumLen m0 m0.length : Nat) : Int)) < 0 := by have := HLEN0.out.sum; omega
    refine (heldWiring_any _ _ l0 m0 (1) _ (oM0.out.keep (by go_grown)).reads HLEN0.out.l1 HLEN0.out.l2 (by omega) (by have := HLEN0.out.sum; omega)).mono ?_
    rintro e w14_ ⟨rfl, hb⟩
    have hx := chain (B := w13_.heap.size) (a := w13_) (by go_grown) (Nat.le_refl _) hb
    have hs := hb.size
    (repeat (first | rw [World.size_alloc] at hs | rw [World.size_drew] at hs))
    replace kp0 := kp0.keep hx
    replace kW0 := kW0.keep hx
    replace kG0 := kG0.keep hx
    replace kZ0 := kZ0.keep hx
    replace oM0 := Lib.hid (oM0.out.keep hx)
    replace hL := chain (B := w.heap.size) (a := w) hL (by first | exact Nat.le_refl _ | simp) hx
    replace hBW := chain (B := w3_.heap.size) (a := w3_) hBW (Nat.le_refl _) hx
    replace hc : H3 ≤ w14_.heap.size := by omega
    clear hx hs hb
    go_wp2_with fail
    go_ret
    exact ⟨rfl, by first | assumption | go_grown⟩

end Go.Proofs.Ytkdidplpnhokiaa
