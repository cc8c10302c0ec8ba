/- The walk of FnExactRunInputs. -/
import Derived.Test.YtblbapehakcomaaRi
import Derived.Test.YtblbapehakcomaaLk
import Derived.Test.YtblbapehakcomaaCir
import Derived.Test.YtblbapehakcomaaRowRd
import Derived.Test.YtblbapehakcomaaTool
namespace Go.Proofs.Ytblbapehakcomaa
open Go.RowKit
set_option linter.unusedVariables false

set_option maxRecDepth 100000 in
set_option maxHeartbeats 8000000 in
theorem walkFnExactRunInputs (p0 : Int) (va0 : Value) (xs0 : List Int) (x1 : Int) (wx1 : (Lit.int .i64 x1).wf = true) (a2 : Option Addr) (len2 cap2 : Nat) (zs2 : List Int) (w : World) (ha0 : Reads w va0 xs0) (hrow2 : IsRow .i64 w a2 len2 cap2 zs2) :
    Calls Try.prog 11 #[.agg #[.int .i64 p0, va0], .int .i64 x1, .slice a2 len2 cap2] w fun e w' => e = .returned (.bool true) ∧ Below w.heap.size w w' := by
  have ha2 := hrow2.reads
  have hl2 : (zs2.take len2).length = len2 := by
    rcases hrow2 with ⟨rfl, rfl, rfl, rfl⟩ | ⟨x, rfl, h1, h2, h3, _, _⟩
    · simp
    · simp; omega
  clear hrow2
  obtain ⟨xs2, hxs2⟩ : ∃ l, zs2.take len2 = l := ⟨_, rfl⟩
  rw [hxs2] at ha2 hl2
  clear hxs2
  subst hl2
  by_cases hbig2 : (1048576 : Int) < (xs2.length : Int)
  · clear ha0 ha2
    go_enter Try.func11, Try.ntmps11
    go_wp2_with (fail)
    go_ret
    exact ⟨rfl, by first | exact Below.refl _ _ | go_grown⟩
  · have hlen2 : Hid ((xs2.length : Int) ≤ 1048576) := by unfold Hid; omega
    have HR0 := Lib.hid ha0
    have HR2 := Lib.hid ha2
    clear ha2
    obtain ⟨a0, ca0, rfl, _, _⟩ := ha0
    have kp0 : C2 (w.alloc (.cells #[.int .i64 p0, .slice a0 xs0.length ca0] 24)) (w.heap.size) (.int .i64 p0) (.slice a0 xs0.length ca0) := by simpa using C2.here w (.int .i64 p0) (.slice a0 xs0.length ca0) 24
    have hL0 : Below w.heap.size w (w.alloc (.cells #[.int .i64 p0, .slice a0 xs0.length ca0] 24)) := (Below.refl _ _).alloc (by simp) (.cells #[.int .i64 p0, .slice a0 xs0.length ca0] 24)
    by_cases hbigC0 : (1048576 : Int) < (xs0.length : Int)
    · have hL := hL0
      clear hL0
      go_enter Try.func11, Try.ntmps11
      go_wp2_with fail
      refine (szCircuit_no _ _ xs0 _ (HR0.out.keep (by go_grown)) hbigC0).mono ?_
      rintro e we0 ⟨rfl, hb⟩
      replace hL := chain (B := w.heap.size) (a := w) hL (Nat.le_refl _) hb
      replace kp0 := keepAt hb kp0
      clear hb
      go_wp2_with fail
      go_ret
      exact ⟨rfl, hL⟩
    · have hlen0 : Hid ((xs0.length : Int) ≤ 1048576) := by unfold Hid; omega
      obtain ⟨z0, hz0⟩ : ∃ z : Int, 1048576 - (xs0.length : Int) = z := ⟨_, rfl⟩
      have HZ0 := Lib.hid hz0
      have hzneg0 : ¬ z0 < 0 := by omega
      have hzle0 : z0 ≤ 1048576 := by omega
      clear hz0 hbigC0
      obtain ⟨l0, hr_l0⟩ : ∃ x : List Int, resRunInputs_0 p0 xs0 x1 xs2 = x := ⟨_, rfl⟩
      have HLEN0 : Hid (l0.length ≤ 100000) := by rw [← hr_l0]; exact lenRunInputs_0 p0 xs0 x1 xs2
      obtain ⟨c1, hr_c1⟩ : ∃ x : Int, resRunInputs_1 p0 xs0 x1 xs2 = x := ⟨_, rfl⟩
      have D1 : Hid (∀ (u_0 u_2 : Value) (w : World), Reads w u_0 xs0 → Reads w u_2 xs2 → Calls Try.prog 40 #[.agg #[.int .i64 p0, u_0], .int .i64 x1, u_2] w fun e w' => ∃ u0, e = .returned (.tuple #[u0, .int .i64 c1]) ∧ In w' w.heap.size w'.heap.size (u0) l0 ∧ Below w.heap.size w w') := fun u_0 u_2 w h0 h2 => by subst hr_l0 hr_c1; exact iRunInputs_any p0 u_0 xs0 x1 u_2 xs2 w h0 h2
      have D2 : Hid (∀ (u_0 u_2 : Value) (w : World), Reads w u_0 xs0 → Reads w u_2 xs2 → Calls Try.prog 38 #[.agg #[.int .i64 p0, u_0], .int .i64 x1, u_2] w fun e w' => ∃ u0, e = .returned (.tuple #[u0, .int .i64 c1]) ∧ Reads w' (u0) l0 ∧ Below w.heap.size w w') := fun u_0 u_2 w h0 h2 => by subst hr_l0 hr_c1; exact sRunInputs_any p0 u_0 xs0 x1 u_2 xs2 w h0 h2
      clear hr_l0 hr_c1
      have hL := hL0
      clear hL0
      obtain ⟨H0, hH0, hc⟩ : ∃ H, w.heap.size + 1 ≤ H ∧ H ≤ w.heap.size + 1 := ⟨_, Nat.le_refl _, Nat.le_refl _⟩
      have hHU0 := hc
      go_enter Try.func11, Try.ntmps11
      go_wp2_with fail
      refine (szCircuit_z _ _ xs0 _ (HR0.out.keep (by go_grown)) (by have := hlen0.out; omega) HZ0.out).mono ?_
      rintro e w1_ ⟨rfl, hb⟩
      have hx := chain (B := (w.alloc (.cells #[.int .i64 p0, .slice a0 xs0.length ca0] 24)).heap.size) (a := (w.alloc (.cells #[.int .i64 p0, .slice a0 xs0.length ca0] 24))) (by go_grown) (Nat.le_refl _) hb
      have hs := hb.size
      (repeat (first | rw [World.size_alloc] at hs | rw [World.size_drew] at hs))
      replace kp0 := kp0.keep hx
      replace hL := chain (B := w.heap.size) (a := w) hL (by first | exact Nat.le_refl _ | simp) hx
      replace hc : H0 ≤ w1_.heap.size := by omega
      clear hx hs hb
      go_wp2_with fail
      refine (toCircuit_x _ _ xs0 _ (HR0.out.keep (by go_grown)) (by have := hlen0.out; omega)).mono ?_
      rintro e w2_ ⟨na0, nc0, nB0, nC0, rfl, on, hB, ⟨hBC, hC⟩, hb⟩
      have hx := chain (B := w1_.heap.size) (a := w1_) (by go_grown) (Nat.le_refl _) hb
      have hs := hb.size
      (repeat (first | rw [World.size_alloc] at hs | rw [World.size_drew] at hs))
      replace kp0 := kp0.keep hx
      replace hL := chain (B := w.heap.size) (a := w) hL (by first | exact Nat.le_refl _ | simp) hx
      have on0 := Lib.hid on
      replace hc : H0 ≤ w2_.heap.size := by omega
      clear hx hs hb hB hBC hC on
      go_wp2_with fail
      refine (toInt64S_x _ xs2 _ (HR2.out.keep (by go_grown)) (by have := hlen2.out; omega)).mono ?_
      rintro e w3_ ⟨nu2, nB2, nC2, rfl, on, hB, ⟨hBC, hC⟩, hb⟩
      have hx := chain (B := w2_.heap.size) (a := w2_) (by go_grown) (Nat.le_refl _) hb
      have hs := hb.size
      (repeat (first | rw [World.size_alloc] at hs | rw [World.size_drew] at hs))
      replace kp0 := kp0.keep hx
      replace on0 := Lib.hid (on0.out.keep hx)
      replace hL := chain (B := w.heap.size) (a := w) hL (by first | exact Nat.le_refl _ | simp) hx
      have on2 := Lib.hid on
      replace hc : H0 ≤ w3_.heap.size := by omega
      clear hx hs hb hB hBC hC on
      go_wp2_with fail
      refine (D2.out _ _ _ on0.out.reads on2.out.reads).mono ?_
      rintro e w4_ ⟨Wu0, rfl, of0, hb⟩
      have hx := chain (B := w3_.heap.size) (a := w3_) (by go_grown) (Nat.le_refl _) hb
      have hs := hb.size
      (repeat (first | rw [World.size_alloc] at hs | rw [World.size_drew] at hs))
      replace kp0 := kp0.keep hx
      replace on0 := Lib.hid (on0.out.keep hx)
      replace on2 := Lib.hid (on2.out.keep hx)
      replace hL := chain (B := w.heap.size) (a := w) hL (by first | exact Nat.le_refl _ | simp) hx
      have HW0 := Lib.hid of0
      replace hc : H0 ≤ w4_.heap.size := by omega
      clear hx hs hb of0
      clear on0 on2
      have hBW : Below w4_.heap.size w4_ w4_ := Below.refl _ _
      obtain ⟨H1, hH1, hcn⟩ : ∃ H, w4_.heap.size ≤ H ∧ H ≤ w4_.heap.size := ⟨_, Nat.le_refl _, Nat.le_refl _⟩
      have hHH1 : H0 ≤ H1 := by omega
      have hHU1 := hcn
      clear hc
      have hc := hcn
      clear hcn
      go_wp2_with fail
      refine (toCircuit_x _ _ xs0 _ (HR0.out.keep (by go_grown)) (by have := hlen0.out; omega)).mono ?_
      rintro e w5_ ⟨xa0, xc0, xB0, xC0, rfl, on, hB, ⟨hBC, hC⟩, hb⟩
      have hx := chain (B := w4_.heap.size) (a := w4_) (by go_grown) (Nat.le_refl _) hb
      have hs := hb.size
      (repeat (first | rw [World.size_alloc] at hs | rw [World.size_drew] at hs))
      replace kp0 := kp0.keep hx
      replace hL := chain (B := w.heap.size) (a := w) hL (by first | exact Nat.le_refl _ | simp) hx
      replace hBW := chain (B := w4_.heap.size) (a := w4_) hBW (Nat.le_refl _) hx
      (repeat (first | rw [World.size_alloc] at hB | rw [World.size_drew] at hB))
      have hLO0 : H1 ≤ xB0 := by omega
      have hHI0 := hC
      obtain ⟨H2, hH2, hcn⟩ : ∃ H, w5_.heap.size + 1 ≤ H ∧ H ≤ w5_.heap.size + 1 := ⟨_, Nat.le_refl _, Nat.le_refl _⟩
      have hHH2 : H1 ≤ H2 := by omega
      have hHU2 := hcn
      clear hc
      have hc := hcn
      clear hcn
      clear hx hs hb hB hC
      have ox0 := Lib.hid on
      clear on
      have hBC0 := hBC
      clear hBC
      go_wp2_with fail
      refine (toInt64S_x _ xs2 _ (HR2.out.keep (by go_grown)) (by have := hlen2.out; omega)).mono ?_
      rintro e w6_ ⟨xu2, xB2, xC2, rfl, on, hB, ⟨hBC, hC⟩, hb⟩
      have hx := chain (B := w5_.heap.size) (a := w5_) (by go_grown) (Nat.le_refl _) hb
      have hs := hb.size
      (repeat (first | rw [World.size_alloc] at hs | rw [World.size_drew] at hs))
      replace kp0 := kp0.keep hx
      replace ox0 := Lib.hid (ox0.out.keep hx)
      have kx0 := keepAt hb (C2.here w5_ (.int .i64 p0) (.slice xa0 xs0.length xc0) 27)
      replace hL := chain (B := w.heap.size) (a := w) hL (by first | exact Nat.le_refl _ | simp) hx
      replace hBW := chain (B := w4_.heap.size) (a := w4_) hBW (Nat.le_refl _) hx
      (repeat (first | rw [World.size_alloc] at hB | rw [World.size_drew] at hB))
      have hLO2 : H2 ≤ xB2 := by omega
      have hHI2 := hC
      obtain ⟨H3, hH3, hcn⟩ : ∃ H, w6_.heap.size ≤ H ∧ H ≤ w6_.heap.size := ⟨_, Nat.le_refl _, Nat.le_refl _⟩
      have hHH3 : H2 ≤ H3 := by omega
      have hHU3 := hcn
      clear hc
      have hc := hcn
      clear hcn
      clear hx hs hb hB hC
      have ox2 := Lib.hid on
      clear on
      have hBC2 := hBC
      clear hBC
      go_wp2_with fail
      refine (D1.out _ _ _ (ox0.out.keep (by first | go_grown | exact (Below.refl _ _).alloc (Nat.le_refl _) _)).reads (ox2.out.keep (by first | go_grown | exact (Below.refl _ _).alloc (Nat.le_refl _) _)).reads).mono ?_
      rintro e w7_ ⟨Gu0, rfl, of0, hb⟩
      have hx := chain (B := w6_.heap.size) (a := w6_) (by go_grown) (Nat.le_refl _) hb
      have hs := hb.size
      (repeat (first | rw [World.size_alloc] at hs | rw [World.size_drew] at hs))
      replace kp0 := kp0.keep hx
      replace kx0 := kx0.keep hx
      replace ox0 := Lib.hid (ox0.out.keep hx)
      replace ox2 := Lib.hid (ox2.out.keep hx)
      replace hL := chain (B := w.heap.size) (a := w) hL (by first | exact Nat.le_refl _ | simp) hx
      replace hBW := chain (B := w4_.heap.size) (a := w4_) hBW (Nat.le_refl _) hx
      (repeat (first | rw [World.size_alloc] at of0 | rw [World.size_drew] at of0))
      obtain ⟨H4, hH4, hcn⟩ : ∃ H, w7_.heap.size ≤ H ∧ H ≤ w7_.heap.size := ⟨_, Nat.le_refl _, Nat.le_refl _⟩
      have hHH4 : H3 ≤ H4 := by omega
      have hco := hc
      have hHU4 := hcn
      clear hc
      have hc := hcn
      clear hcn
      have oG0 := Lib.hid (of0.monoI (B' := H3) (C' := H4) (by omega) (by omega))
      clear of0
      clear hx hs hb hco
      go_wp2_with fail
      refine (eqInt64S_same _ _ l0 _ (oG0.out.keep (by go_grown)).reads (HW0.out.keep (by go_grown))).mono ?_
      rintro e w8_ ⟨rfl, hb⟩
      have hx := chain (B := w7_.heap.size) (a := w7_) (by go_grown) (Nat.le_refl _) hb
      have hs := hb.size
      (repeat (first | rw [World.size_alloc] at hs | rw [World.size_drew] at hs))
      replace kp0 := kp0.keep hx
      replace kx0 := kx0.keep hx
      replace ox0 := Lib.hid (ox0.out.keep hx)
      replace ox2 := Lib.hid (ox2.out.keep hx)
      replace oG0 := Lib.hid (oG0.out.keep hx)
      replace hL := chain (B := w.heap.size) (a := w) hL (by first | exact Nat.le_refl _ | simp) hx
      replace hBW := chain (B := w4_.heap.size) (a := w4_) hBW (Nat.le_refl _) hx
      replace hc : H4 ≤ w8_.heap.size := by omega
      clear hx hs hb
      go_wp2_with fail
      have RXd := Lib.hid ox0.out.reads
      go_upto_region 10 with fail
      go_region_held3 (fun w' => C2 w' w5_.heap.size (.int .i64 p0) (.slice xa0 xs0.length xc0) ∧ C2 w' (w.heap.size) (.int .i64 p0) (.slice a0 xs0.length ca0)) ((first | (refine ⟨?_, ?_⟩ <;> ((repeat' (first | (with_reducible assumption) | (with_reducible refine C2.drewU ?_) | (with_reducible refine C2.alloc ?_ _) | (with_reducible refine C2.set ?_ _ _ _ (by omega)))); done)) | ((repeat' (first | (with_reducible assumption) | (with_reducible refine C2.drewU ?_) | (with_reducible refine C2.alloc ?_ _) | (with_reducible refine C2.set ?_ _ _ _ (by omega)))); done))) (first | (go_at_call 17; (with_reducible refine (toCircuit_x _ _ xs0 _ (HR0.out.keep (by go_grown)) (by have := hlen0.out; omega)).mono ?_); rintro e wq0 ⟨ya, yc, yB, yC, rfl, oy, yhB, yhC, hb⟩; have hs := hb.size; (repeat (first | rw [World.size_alloc] at hs | rw [World.size_drew] at hs)); have hL := chain (B := w.heap.size) (a := w) (by go_grown) (Nat.le_refl _) hb; have hBW := chain (B := w4_.heap.size) (a := w4_) (by go_grown) (Nat.le_refl _) hb; replace kp0 := keepAt hb (show C2 _ (w.heap.size) (.int .i64 p0) (.slice a0 xs0.length ca0) from by (repeat' (first | (with_reducible assumption) | (with_reducible refine C2.drewU ?_) | (with_reducible refine C2.alloc ?_ _)))); replace kx0 := keepAt hb (show C2 _ w5_.heap.size (.int .i64 p0) (.slice xa0 xs0.length xc0) from by (repeat' (first | (with_reducible assumption) | (with_reducible refine C2.drewU ?_) | (with_reducible refine C2.alloc ?_ _)))); replace ox0 := Lib.hid (inAt hb ox0.out); replace ox2 := Lib.hid (inAt hb ox2.out); replace oG0 := Lib.hid (inAt hb oG0.out); have RY := Lib.hid oy.reads; replace RXd := Lib.hid (readsAtC hb RXd.out); clear hb oy yhB yhC) | (go_at_call 19; (with_reducible refine (eqCircuit_same _ _ _ xs0 _ RXd.out RY.out).mono ?_); rintro e wd0 ⟨rfl, hb⟩; have hs2 := hb.size; (repeat (first | rw [World.size_alloc] at hs2 | rw [World.size_drew] at hs2)); have hL := chain (B := w.heap.size) (a := w) (by go_grown) (Nat.le_refl _) hb; have hBW := chain (B := w4_.heap.size) (a := w4_) (by go_grown) (Nat.le_refl _) hb; replace kp0 := keepAt hb (show C2 _ (w.heap.size) (.int .i64 p0) (.slice a0 xs0.length ca0) from by (repeat' (first | (with_reducible assumption) | (with_reducible refine C2.drewU ?_) | (with_reducible refine C2.alloc ?_ _)))); replace kx0 := keepAt hb (show C2 _ w5_.heap.size (.int .i64 p0) (.slice xa0 xs0.length xc0) from by (repeat' (first | (with_reducible assumption) | (with_reducible refine C2.drewU ?_) | (with_reducible refine C2.alloc ?_ _)))); replace ox0 := Lib.hid (inAt hb ox0.out); replace ox2 := Lib.hid (inAt hb ox2.out); replace oG0 := Lib.hid (inAt hb oG0.out); clear hb RXd RY))
      have hcn : H4 ≤ wd0.heap.size := by omega
      clear hc hs hs2
      have hc := hcn
      clear hcn
      go_wp2_with fail
      refine (toInt64S_x _ xs2 _ (HR2.out.keep (by go_grown)) (by have := hlen2.out; omega)).mono ?_
      rintro e w9_ ⟨yu2, yB2, yC2, rfl, on, hB, ⟨hBC, hC⟩, hb⟩
      have hx := chain (B := wd0.heap.size) (a := wd0) (by go_grown) (Nat.le_refl _) hb
      have hs := hb.size
      (repeat (first | rw [World.size_alloc] at hs | rw [World.size_drew] at hs))
      replace kp0 := kp0.keep hx
      replace kx0 := kx0.keep hx
      replace ox0 := Lib.hid (ox0.out.keep hx)
      replace ox2 := Lib.hid (ox2.out.keep hx)
      replace oG0 := Lib.hid (oG0.out.keep hx)
      replace hL := chain (B := w.heap.size) (a := w) hL (by first | exact Nat.le_refl _ | simp) hx
      replace hBW := chain (B := w4_.heap.size) (a := w4_) hBW (Nat.le_refl _) hx
      have oy2 := Lib.hid on
      replace hc : H4 ≤ w9_.heap.size := by omega
      clear hx hs hb hB hBC hC on
      go_wp2_with fail
      refine (eqInt64S_same _ _ xs2 _ (ox2.out.keep (by go_grown)).reads (oy2.out.keep (by go_grown)).reads).mono ?_
      rintro e w10_ ⟨rfl, hb⟩
      have hx := chain (B := w9_.heap.size) (a := w9_) (by go_grown) (Nat.le_refl _) hb
      have hs := hb.size
      (repeat (first | rw [World.size_alloc] at hs | rw [World.size_drew] at hs))
      replace kp0 := kp0.keep hx
      replace kx0 := kx0.keep hx
      replace ox0 := Lib.hid (ox0.out.keep hx)
      replace ox2 := Lib.hid (ox2.out.keep hx)
      replace oG0 := Lib.hid (oG0.out.keep hx)
      replace oy2 := Lib.hid (oy2.out.keep hx)
      replace hL := chain (B := w.heap.size) (a := w) hL (by first | exact Nat.le_refl _ | simp) hx
      replace hBW := chain (B := w4_.heap.size) (a := w4_) hBW (Nat.le_refl _) hx
      replace hc : H4 ≤ w10_.heap.size := by omega
      clear hx hs hb
      clear oy2
      go_wp2_with fail
      clear kx0
      refine (markCircuit_any p0 _ _ _ xs0 (1) _ ox0.out (by omega) (by have := hlen0.out; omega) (by omega) (by have := hlen2.out; have := hlen0.out; omega)).mono ?_
      rintro e w11_ ⟨rfl, om, oo⟩
      have hs := oo.size
      (repeat (first | rw [World.size_alloc] at hs | rw [World.size_drew] at hs))
      replace kp0 := C2.only kp0 oo (by have := kp0.2.2.2.2; omega)
      replace ox2 := Lib.hid (ox2.out.only oo (by omega))
      replace oG0 := Lib.hid (oG0.out.only oo (by omega))
      replace hL := Only.under hL oo (by omega) (by have := hL.size; omega)
      replace hBW := Only.under hBW oo (by omega) (by have := hBW.size; omega)
      replace hc : H4 ≤ w11_.heap.size := by omega
      clear ox0
      clear om oo hs
      go_wp2_with fail
      refine (markIn_any _ _ _ xs2 (1 + (xs0.length : Int)) _ ox2.out (by have := hlen2.out; omega) (by omega) (by have := hlen2.out; have := hlen0.out; omega)).mono ?_
      rintro e w12_ ⟨rfl, om, oo⟩
      have hs := oo.size
      (repeat (first | rw [World.size_alloc] at hs | rw [World.size_drew] at hs))
      replace kp0 := C2.only kp0 oo (by have := kp0.2.2.2.2; omega)
      replace oG0 := Lib.hid (oG0.out.only oo (by omega))
      replace hL := Only.under hL oo (by omega) (by have := hL.size; omega)
      replace hBW := Only.under hBW oo (by omega) (by have := hBW.size; omega)
      replace hc : H4 ≤ w12_.heap.size := by omega
      clear ox2
      clear om oo hs
      have hneg : ¬ (1 + (xs0.length : Int) + (xs2.length : Int)) < 0 := by have := hlen2.out; have := hlen0.out; omega
      go_wp2_with fail
      refine (eqInt64S_same _ _ l0 _ (oG0.out.keep (by go_grown)).reads (HW0.out.keep (by go_grown))).mono ?_
      rintro e w13_ ⟨rfl, hb⟩
      have hx := chain (B := w12_.heap.size) (a := w12_) (by go_grown) (Nat.le_refl _) hb
      have hs := hb.size
      (repeat (first | rw [World.size_alloc] at hs | rw [World.size_drew] at hs))
      replace kp0 := kp0.keep hx
      replace oG0 := Lib.hid (oG0.out.keep hx)
      replace hL := chain (B := w.heap.size) (a := w) hL (by first | exact Nat.le_refl _ | simp) hx
      replace hBW := chain (B := w4_.heap.size) (a := w4_) hBW (Nat.le_refl _) hx
      replace hc : H4 ≤ w13_.heap.size := by omega
      clear hx hs hb
      go_wp2_with fail
      refine (markIn_any _ _ _ l0 (1) _ oG0.out (by have := HLEN0.out; omega) (by omega) (by have := HLEN0.out; omega)).mono ?_
      rintro e w14_ ⟨rfl, om, oo⟩
      have hs := oo.size
      (repeat (first | rw [World.size_alloc] at hs | rw [World.size_drew] at hs))
      replace kp0 := C2.only kp0 oo (by have := kp0.2.2.2.2; omega)
      replace hL := Only.under hL oo (by omega) (by have := hL.size; omega)
      replace hBW := Only.under hBW oo (by omega) (by have := hBW.size; omega)
      replace hc : H4 ≤ w14_.heap.size := by omega
      clear oG0
      have oM0 := Lib.hid om
      clear om oo hs
      go_wp2_with fail
      have hqa0 : ¬ (1 + (l0.length : Int)) < 0 := by have := HLEN0.out; omega
      refine (heldInt64S_any _ l0.length (1) _ (oM0.out.keep (by go_grown)).reads (by have := HLEN0.out; omega) (by omega) (by have := HLEN0.out; omega)).mono ?_
      rintro e w15_ ⟨rfl, hb⟩
      have hx := chain (B := w14_.heap.size) (a := w14_) (by go_grown) (Nat.le_refl _) hb
      have hs := hb.size
      (repeat (first | rw [World.size_alloc] at hs | rw [World.size_drew] at hs))
      replace kp0 := kp0.keep hx
      replace oM0 := Lib.hid (oM0.out.keep hx)
      replace hL := chain (B := w.heap.size) (a := w) hL (by first | exact Nat.le_refl _ | simp) hx
      replace hBW := chain (B := w4_.heap.size) (a := w4_) hBW (Nat.le_refl _) hx
      replace hc : H4 ≤ w15_.heap.size := by omega
      clear hx hs hb
      clear hqa0
      go_wp2_with fail
      refine (toCircuit_x _ _ xs0 _ (HR0.out.keep (by go_grown)) (by have := hlen0.out; omega)).mono ?_
      rintro e w16_ ⟨ha0, hc0, hB0, hC0, rfl, on, hB, ⟨hBC, hC⟩, hb⟩
      have hx := chain (B := w15_.heap.size) (a := w15_) (by go_grown) (Nat.le_refl _) hb
      have hs := hb.size
      (repeat (first | rw [World.size_alloc] at hs | rw [World.size_drew] at hs))
      replace kp0 := kp0.keep hx
      replace oM0 := Lib.hid (oM0.out.keep hx)
      replace hL := chain (B := w.heap.size) (a := w) hL (by first | exact Nat.le_refl _ | simp) hx
      replace hBW := chain (B := w4_.heap.size) (a := w4_) hBW (Nat.le_refl _) hx
      have oh0 := Lib.hid on
      replace hc : H4 ≤ w16_.heap.size := by omega
      clear hx hs hb hB hBC hC on
      go_wp2_with fail
      refine (toInt64S_x _ xs2 _ (HR2.out.keep (by go_grown)) (by have := hlen2.out; omega)).mono ?_
      rintro e w17_ ⟨hu2, hB2, hC2, rfl, on, hB, ⟨hBC, hC⟩, hb⟩
      have hx := chain (B := w16_.heap.size) (a := w16_) (by go_grown) (Nat.le_refl _) hb
      have hs := hb.size
      (repeat (first | rw [World.size_alloc] at hs | rw [World.size_drew] at hs))
      replace kp0 := kp0.keep hx
      replace oM0 := Lib.hid (oM0.out.keep hx)
      replace oh0 := Lib.hid (oh0.out.keep hx)
      replace hL := chain (B := w.heap.size) (a := w) hL (by first | exact Nat.le_refl _ | simp) hx
      replace hBW := chain (B := w4_.heap.size) (a := w4_) hBW (Nat.le_refl _) hx
      have oh2 := Lib.hid on
      replace hc : H4 ≤ w17_.heap.size := by omega
      clear hx hs hb hB hBC hC on
      go_wp2_with fail
      refine (D1.out _ _ _ oh0.out.reads oh2.out.reads).mono ?_
      rintro e w18_ ⟨Zu0, rfl, of0, hb⟩
      have hx := chain (B := w17_.heap.size) (a := w17_) (by go_grown) (Nat.le_refl _) hb
      have hs := hb.size
      (repeat (first | rw [World.size_alloc] at hs | rw [World.size_drew] at hs))
      replace kp0 := kp0.keep hx
      replace oM0 := Lib.hid (oM0.out.keep hx)
      replace oh0 := Lib.hid (oh0.out.keep hx)
      replace oh2 := Lib.hid (oh2.out.keep hx)
      replace hL := chain (B := w.heap.size) (a := w) hL (by first | exact Nat.le_refl _ | simp) hx
      replace hBW := chain (B := w4_.heap.size) (a := w4_) hBW (Nat.le_refl _) hx
      have oZ0 := Lib.hid of0
      clear of0
      replace hc : H4 ≤ w18_.heap.size := by omega
      clear hx hs hb
      clear oh0 oh2
      go_wp2_with fail
      refine (eqInt64S_same _ _ l0 _ (oZ0.out.keep (by go_grown)).reads (HW0.out.keep (by go_grown))).mono ?_
      rintro e w19_ ⟨rfl, hb⟩
      have hx := chain (B := w18_.heap.size) (a := w18_) (by go_grown) (Nat.le_refl _) hb
      have hs := hb.size
      (repeat (first | rw [World.size_alloc] at hs | rw [World.size_drew] at hs))
      replace kp0 := kp0.keep hx
      replace oM0 := Lib.hid (oM0.out.keep hx)
      replace oZ0 := Lib.hid (oZ0.out.keep hx)
      replace hL := chain (B := w.heap.size) (a := w) hL (by first | exact Nat.le_refl _ | simp) hx
      replace hBW := chain (B := w4_.heap.size) (a := w4_) hBW (Nat.le_refl _) hx
      replace hc : H4 ≤ w19_.heap.size := by omega
      clear hx hs hb
      clear oZ0
      go_wp2_with fail
      have hqb0 : ¬ (1 + (l0.length : Int)) < 0 := by have := HLEN0.out; omega
      refine (heldInt64S_any _ l0.length (1) _ (oM0.out.keep (by go_grown)).reads (by have := HLEN0.out; omega) (by omega) (by have := HLEN0.out; omega)).mono ?_
      rintro e w20_ ⟨rfl, hb⟩
      have hx := chain (B := w19_.heap.size) (a := w19_) (by go_grown) (Nat.le_refl _) hb
      have hs := hb.size
      (repeat (first | rw [World.size_alloc] at hs | rw [World.size_drew] at hs))
      replace kp0 := kp0.keep hx
      replace oM0 := Lib.hid (oM0.out.keep hx)
      replace hL := chain (B := w.heap.size) (a := w) hL (by first | exact Nat.le_refl _ | simp) hx
      replace hBW := chain (B := w4_.heap.size) (a := w4_) hBW (Nat.le_refl _) hx
      replace hc : H4 ≤ w20_.heap.size := by omega
      clear hx hs hb
      go_wp2_with fail
      go_ret
      exact ⟨rfl, by first | assumption | go_grown⟩

end Go.Proofs.Ytblbapehakcomaa
