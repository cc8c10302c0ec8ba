/- The walk of FnExactRunOver. -/
import Derived.Test.YtnlcnbkookmfaaaRoP
import Derived.Test.YtnlcnbkookmfaaaRoS
import Derived.Test.YtnlcnbkookmfaaaLkH
import Derived.Test.YtnlcnbkookmfaaaRowRd
import Derived.Test.YtnlcnbkookmfaaaTool
namespace Go.Proofs.Ytnlcnbkookmfaaa
open Go.RowKit
set_option linter.unusedVariables false

set_option maxRecDepth 100000 in
set_option maxHeartbeats 8000000 in
theorem walkFnExactRunOver (va0 : Value) (p0 : Int) (xss0 yss0 : List (List Int)) (x1 : Int) (wx1 : (Lit.int .i64 x1).wf = true) (a2 : Option Addr) (len2 cap2 : Nat) (zs2 : List Int) (w : World) (ha0 : ReadsH w va0 p0 xss0 yss0) (hrow2 : IsRow .i64 w a2 len2 cap2 zs2) :
    Calls Try.prog 6 #[va0, .int .i64 x1, .slice a2 len2 cap2] w fun e w' => e = .returned (.bool true) ∧ Below w.heap.size w w' := by
  have ha2 := hrow2.reads
  have hl2 : (zs2.take len2).length = len2 := by
    rcases hrow2 with ⟨rfl, rfl, rfl, rfl⟩ | ⟨x, rfl, h1, h2, h3, _, _⟩
    · simp
    · simp; omega
  clear hrow2
  obtain ⟨xs2, hxs2⟩ : ∃ l, zs2.take len2 = l := ⟨_, rfl⟩
  rw [hxs2] at ha2 hl2
  clear hxs2
  subst hl2
  have HR0 := Lib.hid ha0
  obtain ⟨a0, ca0, b0, cb0, rfl, _, _⟩ := ha0
  by_cases hbig2 : (1048576 : Int) < (xs2.length : Int)
  · clear ha2
    go_enter Try.func6, Try.ntmps6
    go_wp2_with (fail)
    go_ret
    exact ⟨rfl, by first | exact Below.refl _ _ | go_grown⟩
  · have hlen2 : Hid ((xs2.length : Int) ≤ 1048576) := by unfold Hid; omega
    have HR2 := Lib.hid ha2
    clear ha2
    have kp0 : C3 (w.alloc (.cells #[.int .i64 p0, .slice a0 xss0.length ca0, .slice b0 yss0.length cb0] 24)) (w.heap.size) (.int .i64 p0) (.slice a0 xss0.length ca0) (.slice b0 yss0.length cb0) := by simpa using C3.here w (.int .i64 p0) (.slice a0 xss0.length ca0) (.slice b0 yss0.length cb0) 24
    have hL0 : Below w.heap.size w (w.alloc (.cells #[.int .i64 p0, .slice a0 xss0.length ca0, .slice b0 yss0.length cb0] 24)) := (Below.refl _ _).alloc (by simp) (.cells #[.int .i64 p0, .slice a0 xss0.length ca0, .slice b0 yss0.length cb0] 24)
    obtain ⟨z0, hz0⟩ : ∃ z, szH 1048576 xss0 yss0 = z := ⟨_, rfl⟩
    have HZ0 := Lib.hid hz0
    have ZB0 : Hid ((0 : Int) ≤ 1048576 ∧ (1048576 : Int) ≤ 1048576) := by unfold Hid; omega
    by_cases hzn0 : z0 = -1
    · subst hzn0
      clear hz0
      have hL := hL0
      clear hL0
      go_enter Try.func6, Try.ntmps6
      go_wp2_with fail
      refine (szChart_any _ _ xss0 yss0 1048576 _ (HR0.out.keep (by go_grown)) ZB0.out.1 ZB0.out.2 HZ0.out).mono ?_
      rintro e we0 ⟨rfl, hb⟩
      replace hL := chain (B := w.heap.size) (a := w) hL (Nat.le_refl _) hb
      replace kp0 := keepAt3 hb kp0
      clear hb
      go_wp2_with fail
      go_ret
      exact ⟨rfl, hL⟩
    · obtain ⟨hfit0, hz00, hze0⟩ := purseH hz0 hzn0 (by omega)
      have HF0 := Lib.hid hfit0
      have HZE0 := Lib.hid hze0
      have hzneg0 : ¬ z0 < 0 := by omega
      have hzle0 : z0 ≤ 1048576 := by omega
      clear hz0 hzn0 hfit0 hze0
      obtain ⟨l0, hr_l0⟩ : ∃ x : List Int, resRunOver_0 p0 xss0 yss0 x1 xs2 = x := ⟨_, rfl⟩
      have HLEN0 : Hid (l0.length ≤ 100000) := by rw [← hr_l0]; exact lenRunOver_0 p0 xss0 yss0 x1 xs2
      obtain ⟨l1, hr_l1⟩ : ∃ x : List Int, resRunOver_1 p0 xss0 yss0 x1 xs2 = x := ⟨_, rfl⟩
      have HLEN1 : Hid (l1.length ≤ 100000) := by rw [← hr_l1]; exact lenRunOver_1 p0 xss0 yss0 x1 xs2
      obtain ⟨c2, hr_c2⟩ : ∃ x : Int, resRunOver_2 p0 xss0 yss0 x1 xs2 = x := ⟨_, rfl⟩
      have D1 : Hid (∀ (u_0 u_2 : Value) (w : World), ReadsH w u_0 p0 xss0 yss0 → Reads w u_2 xs2 → Calls Try.prog 33 #[u_0, .int .i64 x1, u_2] w fun e w' => ∃ u0 u1, e = .returned (.tuple #[u0, u1, .int .i64 c2]) ∧ TwoIn w' w.heap.size u0 u1 l0 l1 ∧ Below w.heap.size w w') := fun u_0 u_2 w h0 h2 => by subst hr_l0 hr_l1 hr_c2; exact iRunOver_any u_0 p0 xss0 yss0 x1 u_2 xs2 w h0 h2
      have D2 : Hid (∀ (u_0 u_2 : Value) (w : World), ReadsH w u_0 p0 xss0 yss0 → Reads w u_2 xs2 → Calls Try.prog 31 #[u_0, .int .i64 x1, u_2] w fun e w' => ∃ u0 u1, e = .returned (.tuple #[u0, u1, .int .i64 c2]) ∧ Reads w' (u0) l0 ∧ Reads w' (u1) l1 ∧ Below w.heap.size w w') := fun u_0 u_2 w h0 h2 => by subst hr_l0 hr_l1 hr_c2; exact sRunOver_any u_0 p0 xss0 yss0 x1 u_2 xs2 w h0 h2
      clear hr_l0 hr_l1 hr_c2
      have hL := hL0
      clear hL0
      obtain ⟨H0, hH0, hc⟩ : ∃ H, w.heap.size + 1 ≤ H ∧ H ≤ w.heap.size + 1 := ⟨_, Nat.le_refl _, Nat.le_refl _⟩
      have hHU0 := hc
      go_enter Try.func6, Try.ntmps6
      go_wp2_with fail
      refine (szChart_any _ _ xss0 yss0 1048576 _ (HR0.out.keep (by go_grown)) ZB0.out.1 ZB0.out.2 HZ0.out).mono ?_
      rintro e w1_ ⟨rfl, hb⟩
      have hx := chain (B := (w.alloc (.cells #[.int .i64 p0, .slice a0 xss0.length ca0, .slice b0 yss0.length cb0] 24)).heap.size) (a := (w.alloc (.cells #[.int .i64 p0, .slice a0 xss0.length ca0, .slice b0 yss0.length cb0] 24))) (by go_grown) (Nat.le_refl _) hb
      have hs := hb.size
      (repeat (first | rw [World.size_alloc] at hs | rw [World.size_drew] at hs))
      replace kp0 := kp0.keep hx
      replace hL := chain (B := w.heap.size) (a := w) hL (by first | exact Nat.le_refl _ | simp) hx
      replace hc : H0 ≤ w1_.heap.size := by omega
      clear hx hs hb
      go_wp2_with fail
      refine (toChart_x _ _ xss0 yss0 _ (HR0.out.keep (by go_grown)) HF0.out).mono ?_
      rintro e w2_ ⟨na0, nc0, nb0, nd0, nB0, nC0, rfl, on, hB, ⟨hBC, hC⟩, hb⟩
      have hx := chain (B := w1_.heap.size) (a := w1_) (by go_grown) (Nat.le_refl _) hb
      have hs := hb.size
      (repeat (first | rw [World.size_alloc] at hs | rw [World.size_drew] at hs))
      replace kp0 := kp0.keep hx
      replace hL := chain (B := w.heap.size) (a := w) hL (by first | exact Nat.le_refl _ | simp) hx
      have on0 := Lib.hid on
      replace hc : H0 ≤ w2_.heap.size := by omega
      clear hx hs hb hB hBC hC on
      go_wp2_with fail
      refine (toInt64S_x _ xs2 _ (HR2.out.keep (by go_grown)) (by have := hlen2.out; omega)).mono ?_
      rintro e w3_ ⟨nu2, nB2, nC2, rfl, on, hB, ⟨hBC, hC⟩, hb⟩
      have hx := chain (B := w2_.heap.size) (a := w2_) (by go_grown) (Nat.le_refl _) hb
      have hs := hb.size
      (repeat (first | rw [World.size_alloc] at hs | rw [World.size_drew] at hs))
      replace kp0 := kp0.keep hx
      replace on0 := Lib.hid (on0.out.keep hx)
      replace hL := chain (B := w.heap.size) (a := w) hL (by first | exact Nat.le_refl _ | simp) hx
      have on2 := Lib.hid on
      replace hc : H0 ≤ w3_.heap.size := by omega
      clear hx hs hb hB hBC hC on
      go_wp2_with fail
      refine (D2.out _ _ _ on0.out.reads on2.out.reads).mono ?_
      rintro e w4_ ⟨Wu0, Wu1, rfl, of0, of1, hb⟩
      have hx := chain (B := w3_.heap.size) (a := w3_) (by go_grown) (Nat.le_refl _) hb
      have hs := hb.size
      (repeat (first | rw [World.size_alloc] at hs | rw [World.size_drew] at hs))
      replace kp0 := kp0.keep hx
      replace on0 := Lib.hid (on0.out.keep hx)
      replace on2 := Lib.hid (on2.out.keep hx)
      replace hL := chain (B := w.heap.size) (a := w) hL (by first | exact Nat.le_refl _ | simp) hx
      have HW0 := Lib.hid of0
      have HW1 := Lib.hid of1
      replace hc : H0 ≤ w4_.heap.size := by omega
      clear hx hs hb of0 of1
      clear on0 on2
      have hBW : Below w4_.heap.size w4_ w4_ := Below.refl _ _
      obtain ⟨H1, hH1, hcn⟩ : ∃ H, w4_.heap.size ≤ H ∧ H ≤ w4_.heap.size := ⟨_, Nat.le_refl _, Nat.le_refl _⟩
      have hHH1 : H0 ≤ H1 := by omega
      have hHU1 := hcn
      clear hc
      have hc := hcn
      clear hcn
      go_wp2_with fail
      refine (toChart_x _ _ xss0 yss0 _ (HR0.out.keep (by go_grown)) HF0.out).mono ?_
      rintro e w5_ ⟨xa0, xc0, xb0, xd0, xB0, xC0, rfl, on, hB, ⟨hBC, hC⟩, hb⟩
      have hx := chain (B := w4_.heap.size) (a := w4_) (by go_grown) (Nat.le_refl _) hb
      have hs := hb.size
      (repeat (first | rw [World.size_alloc] at hs | rw [World.size_drew] at hs))
      replace kp0 := kp0.keep hx
      replace hL := chain (B := w.heap.size) (a := w) hL (by first | exact Nat.le_refl _ | simp) hx
      replace hBW := chain (B := w4_.heap.size) (a := w4_) hBW (Nat.le_refl _) hx
      (repeat (first | rw [World.size_alloc] at hB | rw [World.size_drew] at hB))
      have hLO0 : H1 ≤ xB0 := by omega
      have hHI0 := hC
      obtain ⟨H2, hH2, hcn⟩ : ∃ H, w5_.heap.size + 1 ≤ H ∧ H ≤ w5_.heap.size + 1 := ⟨_, Nat.le_refl _, Nat.le_refl _⟩
      have hHH2 : H1 ≤ H2 := by omega
      have hHU2 := hcn
      clear hc
      have hc := hcn
      clear hcn
      clear hx hs hb hB hC
      have ox0 := Lib.hid on
      clear on
      have hBC0 := hBC
      clear hBC
      go_wp2_with fail
      refine (toInt64S_x _ xs2 _ (HR2.out.keep (by go_grown)) (by have := hlen2.out; omega)).mono ?_
      rintro e w6_ ⟨xu2, xB2, xC2, rfl, on, hB, ⟨hBC, hC⟩, hb⟩
      have hx := chain (B := w5_.heap.size) (a := w5_) (by go_grown) (Nat.le_refl _) hb
      have hs := hb.size
      (repeat (first | rw [World.size_alloc] at hs | rw [World.size_drew] at hs))
      replace kp0 := kp0.keep hx
      replace ox0 := Lib.hid (ox0.out.keep hx)
      have kx0 := keepAt3 hb (C3.here w5_ (.int .i64 p0) (.slice xa0 xss0.length xc0) (.slice xb0 yss0.length xd0) 27)
      replace hL := chain (B := w.heap.size) (a := w) hL (by first | exact Nat.le_refl _ | simp) hx
      replace hBW := chain (B := w4_.heap.size) (a := w4_) hBW (Nat.le_refl _) hx
      (repeat (first | rw [World.size_alloc] at hB | rw [World.size_drew] at hB))
      have hLO2 : H2 ≤ xB2 := by omega
      have hHI2 := hC
      obtain ⟨H3, hH3, hcn⟩ : ∃ H, w6_.heap.size ≤ H ∧ H ≤ w6_.heap.size := ⟨_, Nat.le_refl _, Nat.le_refl _⟩
      have hHH3 : H2 ≤ H3 := by omega
      have hHU3 := hcn
      clear hc
      have hc := hcn
      clear hcn
      clear hx hs hb hB hC
      have ox2 := Lib.hid on
      clear on
      have hBC2 := hBC
      clear hBC
      go_wp2_with fail
      refine (D1.out _ _ _ (ox0.out.keep (by first | go_grown | exact (Below.refl _ _).alloc (Nat.le_refl _) _)).reads (ox2.out.keep (by first | go_grown | exact (Below.refl _ _).alloc (Nat.le_refl _) _)).reads).mono ?_
      rintro e w7_ ⟨Gu0, Gu1, rfl, ⟨Gla, Glb, Glc, Gld, of0, of1, hM1, hM2, hM3, hM4, hM5⟩, hb⟩
      have hx := chain (B := w6_.heap.size) (a := w6_) (by go_grown) (Nat.le_refl _) hb
      have hs := hb.size
      (repeat (first | rw [World.size_alloc] at hs | rw [World.size_drew] at hs))
      replace kp0 := kp0.keep hx
      replace kx0 := kx0.keep hx
      replace ox0 := Lib.hid (ox0.out.keep hx)
      replace ox2 := Lib.hid (ox2.out.keep hx)
      replace hL := chain (B := w.heap.size) (a := w) hL (by first | exact Nat.le_refl _ | simp) hx
      replace hBW := chain (B := w4_.heap.size) (a := w4_) hBW (Nat.le_refl _) hx
      (repeat (first | rw [World.size_alloc] at of0 | rw [World.size_drew] at of0))
      (repeat (first | rw [World.size_alloc] at of1 | rw [World.size_drew] at of1))
      (repeat (first | rw [World.size_alloc] at hM1 | rw [World.size_drew] at hM1))
      (repeat (first | rw [World.size_alloc] at hM3 | rw [World.size_drew] at hM3))
      obtain ⟨H4, hH4, hcn⟩ : ∃ H, w7_.heap.size ≤ H ∧ H ≤ w7_.heap.size := ⟨_, Nat.le_refl _, Nat.le_refl _⟩
      have hHH4 : H3 ≤ H4 := by omega
      have hco := hc
      have hHU4 := hcn
      clear hc
      have hc := hcn
      clear hcn
      have hMG1 : H3 ≤ Gla ∧ H3 ≤ Glc := by omega
      have hMG2 : Glb ≤ H4 ∧ Gld ≤ H4 := by omega
      have hMG3 := hM5
      have oG0 := Lib.hid of0
      have oG1 := Lib.hid of1
      clear of0 of1 hM1 hM2 hM3 hM4 hM5
      clear hx hs hb hco
      go_wp2_with fail
      refine (eqInt64S_same _ _ l0 _ (oG0.out.keep (by go_grown)).reads (HW0.out.keep (by go_grown))).mono ?_
      rintro e w8_ ⟨rfl, hb⟩
      have hx := chain (B := w7_.heap.size) (a := w7_) (by go_grown) (Nat.le_refl _) hb
      have hs := hb.size
      (repeat (first | rw [World.size_alloc] at hs | rw [World.size_drew] at hs))
      replace kp0 := kp0.keep hx
      replace kx0 := kx0.keep hx
      replace ox0 := Lib.hid (ox0.out.keep hx)
      replace ox2 := Lib.hid (ox2.out.keep hx)
      replace oG0 := Lib.hid (oG0.out.keep hx)
      replace oG1 := Lib.hid (oG1.out.keep hx)
      replace hL := chain (B := w.heap.size) (a := w) hL (by first | exact Nat.le_refl _ | simp) hx
      replace hBW := chain (B := w4_.heap.size) (a := w4_) hBW (Nat.le_refl _) hx
      replace hc : H4 ≤ w8_.heap.size := by omega
      clear hx hs hb
      go_wp2_with fail
      refine (eqInt64S_same _ _ l1 _ (oG1.out.keep (by go_grown)).reads (HW1.out.keep (by go_grown))).mono ?_
      rintro e w9_ ⟨rfl, hb⟩
      have hx := chain (B := w8_.heap.size) (a := w8_) (by go_grown) (Nat.le_refl _) hb
      have hs := hb.size
      (repeat (first | rw [World.size_alloc] at hs | rw [World.size_drew] at hs))
      replace kp0 := kp0.keep hx
      replace kx0 := kx0.keep hx
      replace ox0 := Lib.hid (ox0.out.keep hx)
      replace ox2 := Lib.hid (ox2.out.keep hx)
      replace oG0 := Lib.hid (oG0.out.keep hx)
      replace oG1 := Lib.hid (oG1.out.keep hx)
      replace hL := chain (B := w.heap.size) (a := w) hL (by first | exact Nat.le_refl _ | simp) hx
      replace hBW := chain (B := w4_.heap.size) (a := w4_) hBW (Nat.le_refl _) hx
      replace hc : H4 ≤ w9_.heap.size := by omega
      clear hx hs hb
      go_wp2_with fail
      have RXd := Lib.hid ox0.out.reads
      go_upto_region 13 with fail
      go_region_held3 (fun w' => C3 w' w5_.heap.size (.int .i64 p0) (.slice xa0 xss0.length xc0) (.slice xb0 yss0.length xd0) ∧ C3 w' (w.heap.size) (.int .i64 p0) (.slice a0 xss0.length ca0) (.slice b0 yss0.length cb0)) ((first | (refine ⟨?_, ?_⟩ <;> ((repeat' (first | (with_reducible assumption) | (with_reducible refine C2.drewU ?_) | (with_reducible refine C2.alloc ?_ _) | (with_reducible refine C2.set ?_ _ _ _ (by omega)) | (with_reducible refine C3.drewU ?_) | (with_reducible refine C3.alloc ?_ _) | (with_reducible refine C3.set ?_ _ _ _ (by omega)))); done)) | ((repeat' (first | (with_reducible assumption) | (with_reducible refine C2.drewU ?_) | (with_reducible refine C2.alloc ?_ _) | (with_reducible refine C2.set ?_ _ _ _ (by omega)) | (with_reducible refine C3.drewU ?_) | (with_reducible refine C3.alloc ?_ _) | (with_reducible refine C3.set ?_ _ _ _ (by omega)))); done))) (first | (go_at_call 17; (with_reducible refine (toChart_x _ _ xss0 yss0 _ (HR0.out.keep (by go_grown)) HF0.out).mono ?_); rintro e wq0 ⟨ya, yc, yb, yd, yB, yC, rfl, oy, yhB, yhC, hb⟩; have hs := hb.size; (repeat (first | rw [World.size_alloc] at hs | rw [World.size_drew] at hs)); have hL := chain (B := w.heap.size) (a := w) (by go_grown) (Nat.le_refl _) hb; have hBW := chain (B := w4_.heap.size) (a := w4_) (by go_grown) (Nat.le_refl _) hb; replace kp0 := keepAt3 hb (show C3 _ (w.heap.size) (.int .i64 p0) (.slice a0 xss0.length ca0) (.slice b0 yss0.length cb0) from by (repeat' (first | (with_reducible assumption) | (with_reducible refine C2.drewU ?_) | (with_reducible refine C2.alloc ?_ _) | (with_reducible refine C3.drewU ?_) | (with_reducible refine C3.alloc ?_ _)))); replace kx0 := keepAt3 hb (show C3 _ w5_.heap.size (.int .i64 p0) (.slice xa0 xss0.length xc0) (.slice xb0 yss0.length xd0) from by (repeat' (first | (with_reducible assumption) | (with_reducible refine C2.drewU ?_) | (with_reducible refine C2.alloc ?_ _) | (with_reducible refine C3.drewU ?_) | (with_reducible refine C3.alloc ?_ _)))); replace ox0 := Lib.hid (ownHAt hb ox0.out); replace ox2 := Lib.hid (inAt hb ox2.out); replace oG0 := Lib.hid (inAt hb oG0.out); replace oG1 := Lib.hid (inAt hb oG1.out); have RY := Lib.hid oy.reads; replace RXd := Lib.hid (readsHAt hb RXd.out); clear hb oy yhB yhC) | (go_at_call 19; (with_reducible refine (eqChart_same _ _ _ xss0 yss0 _ RXd.out RY.out).mono ?_); rintro e wd0 ⟨rfl, hb⟩; have hs2 := hb.size; (repeat (first | rw [World.size_alloc] at hs2 | rw [World.size_drew] at hs2)); have hL := chain (B := w.heap.size) (a := w) (by go_grown) (Nat.le_refl _) hb; have hBW := chain (B := w4_.heap.size) (a := w4_) (by go_grown) (Nat.le_refl _) hb; replace kp0 := keepAt3 hb (show C3 _ (w.heap.size) (.int .i64 p0) (.slice a0 xss0.length ca0) (.slice b0 yss0.length cb0) from by (repeat' (first | (with_reducible assumption) | (with_reducible refine C2.drewU ?_) | (with_reducible refine C2.alloc ?_ _) | (with_reducible refine C3.drewU ?_) | (with_reducible refine C3.alloc ?_ _)))); replace kx0 := keepAt3 hb (show C3 _ w5_.heap.size (.int .i64 p0) (.slice xa0 xss0.length xc0) (.slice xb0 yss0.length xd0) from by (repeat' (first | (with_reducible assumption) | (with_reducible refine C2.drewU ?_) | (with_reducible refine C2.alloc ?_ _) | (with_reducible refine C3.drewU ?_) | (with_reducible refine C3.alloc ?_ _)))); replace ox0 := Lib.hid (ownHAt hb ox0.out); replace ox2 := Lib.hid (inAt hb ox2.out); replace oG0 := Lib.hid (inAt hb oG0.out); replace oG1 := Lib.hid (inAt hb oG1.out); clear hb RXd RY))
      have hcn : H4 ≤ wd0.heap.size := by omega
      clear hc hs hs2
      have hc := hcn
      clear hcn
      go_wp2_with fail
      refine (toInt64S_x _ xs2 _ (HR2.out.keep (by go_grown)) (by have := hlen2.out; omega)).mono ?_
      rintro e w10_ ⟨yu2, yB2, yC2, rfl, on, hB, ⟨hBC, hC⟩, hb⟩
      have hx := chain (B := wd0.heap.size) (a := wd0) (by go_grown) (Nat.le_refl _) hb
      have hs := hb.size
      (repeat (first | rw [World.size_alloc] at hs | rw [World.size_drew] at hs))
      replace kp0 := kp0.keep hx
      replace kx0 := kx0.keep hx
      replace ox0 := Lib.hid (ox0.out.keep hx)
      replace ox2 := Lib.hid (ox2.out.keep hx)
      replace oG0 := Lib.hid (oG0.out.keep hx)
      replace oG1 := Lib.hid (oG1.out.keep hx)
      replace hL := chain (B := w.heap.size) (a := w) hL (by first | exact Nat.le_refl _ | simp) hx
      replace hBW := chain (B := w4_.heap.size) (a := w4_) hBW (Nat.le_refl _) hx
      have oy2 := Lib.hid on
      replace hc : H4 ≤ w10_.heap.size := by omega
      clear hx hs hb hB hBC hC on
      go_wp2_with fail
      refine (eqInt64S_same _ _ xs2 _ (ox2.out.keep (by go_grown)).reads (oy2.out.keep (by go_grown)).reads).mono ?_
      rintro e w11_ ⟨rfl, hb⟩
      have hx := chain (B := w10_.heap.size) (a := w10_) (by go_grown) (Nat.le_refl _) hb
      have hs := hb.size
      (repeat (first | rw [World.size_alloc] at hs | rw [World.size_drew] at hs))
      replace kp0 := kp0.keep hx
      replace kx0 := kx0.keep hx
      replace ox0 := Lib.hid (ox0.out.keep hx)
      replace ox2 := Lib.hid (ox2.out.keep hx)
      replace oG0 := Lib.hid (oG0.out.keep hx)
      replace oG1 := Lib.hid (oG1.out.keep hx)
      replace oy2 := Lib.hid (oy2.out.keep hx)
      replace hL := chain (B := w.heap.size) (a := w) hL (by first | exact Nat.le_refl _ | simp) hx
      replace hBW := chain (B := w4_.heap.size) (a := w4_) hBW (Nat.le_refl _) hx
      replace hc : H4 ≤ w11_.heap.size := by omega
      clear hx hs hb
      clear oy2
      go_wp2_with fail
      clear kx0
      refine (markChart_any _ _ _ _ xss0 yss0 (1) _ ox0.out (by omega) HF0.out.l1 HF0.out.l2 (by omega) (by have := hlen2.out; have := HF0.out.sum; have := HZE0.out; omega)).mono ?_
      rintro e w12_ ⟨rfl, om, oo⟩
      have hs := oo.size
      (repeat (first | rw [World.size_alloc] at hs | rw [World.size_drew] at hs))
      replace kp0 := C3.only kp0 oo (by have := kp0.lt; omega)
      replace ox2 := Lib.hid (ox2.out.only oo (by omega))
      replace oG0 := Lib.hid (oG0.out.only oo (by omega))
      replace oG1 := Lib.hid (oG1.out.only oo (by omega))
      replace hL := Only.under hL oo (by omega) (by have := hL.size; omega)
      replace hBW := Only.under hBW oo (by omega) (by have := hBW.size; omega)
      replace hc : H4 ≤ w12_.heap.size := by omega
      clear ox0
      clear om oo hs
      go_wp2_with fail
      refine (markIn_any _ _ _ xs2 (1 + ((sumLen xss0 xss0.length : Nat) : Int) + ((sumLen yss0 yss0.length : Nat) : Int)) _ ox2.out (by have := hlen2.out; omega) (by omega) (by have := hlen2.out; have := HF0.out.sum; have := HZE0.out; omega)).mono ?_
      rintro e w13_ ⟨rfl, om, oo⟩
      have hs := oo.size
      (repeat (first | rw [World.size_alloc] at hs | rw [World.size_drew] at hs))
      replace kp0 := C3.only kp0 oo (by have := kp0.lt; omega)
      replace oG0 := Lib.hid (oG0.out.only oo (by omega))
      replace oG1 := Lib.hid (oG1.out.only oo (by omega))
      replace hL := Only.under hL oo (by omega) (by have := hL.size; omega)
      replace hBW := Only.under hBW oo (by omega) (by have := hBW.size; omega)
      replace hc : H4 ≤ w13_.heap.size := by omega
      clear ox2
      clear om oo hs
      have hneg : ¬ (1 + ((sumLen xss0 xss0.length : Nat) : Int) + ((sumLen yss0 yss0.length : Nat) : Int) + (xs2.length : Int)) < 0 := by have := hlen2.out; have := HF0.out.sum; have := HZE0.out; omega
      go_wp2_with fail
      refine (eqInt64S_same _ _ l0 _ (oG0.out.keep (by go_grown)).reads (HW0.out.keep (by go_grown))).mono ?_
      rintro e w14_ ⟨rfl, hb⟩
      have hx := chain (B := w13_.heap.size) (a := w13_) (by go_grown) (Nat.le_refl _) hb
      have hs := hb.size
      (repeat (first | rw [World.size_alloc] at hs | rw [World.size_drew] at hs))
      replace kp0 := kp0.keep hx
      replace oG0 := Lib.hid (oG0.out.keep hx)
      replace oG1 := Lib.hid (oG1.out.keep hx)
      replace hL := chain (B := w.heap.size) (a := w) hL (by first | exact Nat.le_refl _ | simp) hx
      replace hBW := chain (B := w4_.heap.size) (a := w4_) hBW (Nat.le_refl _) hx
      replace hc : H4 ≤ w14_.heap.size := by omega
      clear hx hs hb
      go_wp2_with fail
      refine (eqInt64S_same _ _ l1 _ (oG1.out.keep (by go_grown)).reads (HW1.out.keep (by go_grown))).mono ?_
      rintro e w15_ ⟨rfl, hb⟩
      have hx := chain (B := w14_.heap.size) (a := w14_) (by go_grown) (Nat.le_refl _) hb
      have hs := hb.size
      (repeat (first | rw [World.size_alloc] at hs | rw [World.size_drew] at hs))
      replace kp0 := kp0.keep hx
      replace oG0 := Lib.hid (oG0.out.keep hx)
      replace oG1 := Lib.hid (oG1.out.keep hx)
      replace hL := chain (B := w.heap.size) (a := w) hL (by first | exact Nat.le_refl _ | simp) hx
      replace hBW := chain (B := w4_.heap.size) (a := w4_) hBW (Nat.le_refl _) hx
      replace hc : H4 ≤ w15_.heap.size := by omega
      clear hx hs hb
      go_wp2_with fail
      refine (markIn_any _ _ _ l0 (1) _ oG0.out (by have := HLEN0.out; omega) (by omega) (by have := HLEN0.out; have := HLEN1.out; omega)).mono ?_
      rintro e w16_ ⟨rfl, om, oo⟩
      have hs := oo.size
      (repeat (first | rw [World.size_alloc] at hs | rw [World.size_drew] at hs))
      replace kp0 := C3.only kp0 oo (by have := kp0.lt; omega)
      replace oG1 := Lib.hid (oG1.out.only oo (by omega))
      replace hL := Only.under hL oo (by omega) (by have := hL.size; omega)
      replace hBW := Only.under hBW oo (by omega) (by have := hBW.size; omega)
      replace hc : H4 ≤ w16_.heap.size := by omega
      clear oG0
      have oM0 := Lib.hid om
      clear om oo hs
      go_wp2_with fail
      refine (markIn_any _ _ _ l1 (1 + (l0.length : Int)) _ oG1.out (by have := HLEN1.out; omega) (by omega) (by have := HLEN0.out; have := HLEN1.out; omega)).mono ?_
      rintro e w17_ ⟨rfl, om, oo⟩
      have hs := oo.size
      (repeat (first | rw [World.size_alloc] at hs | rw [World.size_drew] at hs))
      replace kp0 := C3.only kp0 oo (by have := kp0.lt; omega)
      replace oM0 := Lib.hid (oM0.out.only oo (by omega))
      replace hL := Only.under hL oo (by omega) (by have := hL.size; omega)
      replace hBW := Only.under hBW oo (by omega) (by have := hBW.size; omega)
      replace hc : H4 ≤ w17_.heap.size := by omega
      clear oG1
      have oM1 := Lib.hid om
      clear om oo hs
      go_wp2_with fail
      have hqa0 : ¬ (1 + (l0.length : Int)) < 0 := by have := HLEN0.out; have := HLEN1.out; omega
      refine (heldInt64S_any _ l0.length (1) _ (oM0.out.keep (by go_grown)).reads (by have := HLEN0.out; omega) (by omega) (by have := HLEN0.out; have := HLEN1.out; omega)).mono ?_
      rintro e w18_ ⟨rfl, hb⟩
      have hx := chain (B := w17_.heap.size) (a := w17_) (by go_grown) (Nat.le_refl _) hb
      have hs := hb.size
      (repeat (first | rw [World.size_alloc] at hs | rw [World.size_drew] at hs))
      replace kp0 := kp0.keep hx
      replace oM0 := Lib.hid (oM0.out.keep hx)
      replace oM1 := Lib.hid (oM1.out.keep hx)
      replace hL := chain (B := w.heap.size) (a := w) hL (by first | exact Nat.le_refl _ | simp) hx
      replace hBW := chain (B := w4_.heap.size) (a := w4_) hBW (Nat.le_refl _) hx
      replace hc : H4 ≤ w18_.heap.size := by omega
      clear hx hs hb
      go_wp2_with fail
      have hqa1 : ¬ (1 + (l0.length : Int) + (l1.length : Int)) < 0 := by have := HLEN0.out; have := HLEN1.out; omega
      refine (heldInt64S_any _ l1.length (1 + (l0.length : Int)) _ (oM1.out.keep (by go_grown)).reads (by have := HLEN1.out; omega) (by omega) (by have := HLEN0.out; have := HLEN1.out; omega)).mono ?_
      rintro e w19_ ⟨rfl, hb⟩
      have hx := chain (B := w18_.heap.size) (a := w18_) (by go_grown) (Nat.le_refl _) hb
      have hs := hb.size
      (repeat (first | rw [World.size_alloc] at hs | rw [World.size_drew] at hs))
      replace kp0 := kp0.keep hx
      replace oM0 := Lib.hid (oM0.out.keep hx)
      replace oM1 := Lib.hid (oM1.out.keep hx)
      replace hL := chain (B := w.heap.size) (a := w) hL (by first | exact Nat.le_refl _ | simp) hx
      replace hBW := chain (B := w4_.heap.size) (a := w4_) hBW (Nat.le_refl _) hx
      replace hc : H4 ≤ w19_.heap.size := by omega
      clear hx hs hb
      clear hqa0
      clear hqa1
      go_wp2_with fail
      refine (toChart_x _ _ xss0 yss0 _ (HR0.out.keep (by go_grown)) HF0.out).mono ?_
      rintro e w20_ ⟨ha0, hc0, hb0, hd0, hB0, hC0, rfl, on, hB, ⟨hBC, hC⟩, hb⟩
      have hx := chain (B := w19_.heap.size) (a := w19_) (by go_grown) (Nat.le_refl _) hb
      have hs := hb.size
      (repeat (first | rw [World.size_alloc] at hs | rw [World.size_drew] at hs))
      replace kp0 := kp0.keep hx
      replace oM0 := Lib.hid (oM0.out.keep hx)
      replace oM1 := Lib.hid (oM1.out.keep hx)
      replace hL := chain (B := w.heap.size) (a := w) hL (by first | exact Nat.le_refl _ | simp) hx
      replace hBW := chain (B := w4_.heap.size) (a := w4_) hBW (Nat.le_refl _) hx
      have oh0 := Lib.hid on
      replace hc : H4 ≤ w20_.heap.size := by omega
      clear hx hs hb hB hBC hC on
      go_wp2_with fail
      refine (toInt64S_x _ xs2 _ (HR2.out.keep (by go_grown)) (by have := hlen2.out; omega)).mono ?_
      rintro e w21_ ⟨hu2, hB2, hC2, rfl, on, hB, ⟨hBC, hC⟩, hb⟩
      have hx := chain (B := w20_.heap.size) (a := w20_) (by go_grown) (Nat.le_refl _) hb
      have hs := hb.size
      (repeat (first | rw [World.size_alloc] at hs | rw [World.size_drew] at hs))
      replace kp0 := kp0.keep hx
      replace oM0 := Lib.hid (oM0.out.keep hx)
      replace oM1 := Lib.hid (oM1.out.keep hx)
      replace oh0 := Lib.hid (oh0.out.keep hx)
      replace hL := chain (B := w.heap.size) (a := w) hL (by first | exact Nat.le_refl _ | simp) hx
      replace hBW := chain (B := w4_.heap.size) (a := w4_) hBW (Nat.le_refl _) hx
      have oh2 := Lib.hid on
      replace hc : H4 ≤ w21_.heap.size := by omega
      clear hx hs hb hB hBC hC on
      go_wp2_with fail
      refine (D1.out _ _ _ oh0.out.reads oh2.out.reads).mono ?_
      rintro e w22_ ⟨Zu0, Zu1, rfl, ⟨Zla, Zlb, Zlc, Zld, of0, of1, hM1, hM2, hM3, hM4, hM5⟩, hb⟩
      have hx := chain (B := w21_.heap.size) (a := w21_) (by go_grown) (Nat.le_refl _) hb
      have hs := hb.size
      (repeat (first | rw [World.size_alloc] at hs | rw [World.size_drew] at hs))
      replace kp0 := kp0.keep hx
      replace oM0 := Lib.hid (oM0.out.keep hx)
      replace oM1 := Lib.hid (oM1.out.keep hx)
      replace oh0 := Lib.hid (oh0.out.keep hx)
      replace oh2 := Lib.hid (oh2.out.keep hx)
      replace hL := chain (B := w.heap.size) (a := w) hL (by first | exact Nat.le_refl _ | simp) hx
      replace hBW := chain (B := w4_.heap.size) (a := w4_) hBW (Nat.le_refl _) hx
      have oZ0 := Lib.hid of0
      clear of0
      have oZ1 := Lib.hid of1
      clear of1
      clear hM1 hM2 hM3 hM4 hM5
      replace hc : H4 ≤ w22_.heap.size := by omega
      clear hx hs hb
      clear oh0 oh2
      go_wp2_with fail
      refine (eqInt64S_same _ _ l0 _ (oZ0.out.keep (by go_grown)).reads (HW0.out.keep (by go_grown))).mono ?_
      rintro e w23_ ⟨rfl, hb⟩
      have hx := chain (B := w22_.heap.size) (a := w22_) (by go_grown) (Nat.le_refl _) hb
      have hs := hb.size
      (repeat (first | rw [World.size_alloc] at hs | rw [World.size_drew] at hs))
      replace kp0 := kp0.keep hx
      replace oM0 := Lib.hid (oM0.out.keep hx)
      replace oM1 := Lib.hid (oM1.out.keep hx)
      replace oZ0 := Lib.hid (oZ0.out.keep hx)
      replace oZ1 := Lib.hid (oZ1.out.keep hx)
      replace hL := chain (B := w.heap.size) (a := w) hL (by first | exact Nat.le_refl _ | simp) hx
      replace hBW := chain (B := w4_.heap.size) (a := w4_) hBW (Nat.le_refl _) hx
      replace hc : H4 ≤ w23_.heap.size := by omega
      clear hx hs hb
      go_wp2_with fail
      refine (eqInt64S_same _ _ l1 _ (oZ1.out.keep (by go_grown)).reads (HW1.out.keep (by go_grown))).mono ?_
      rintro e w24_ ⟨rfl, hb⟩
      have hx := chain (B := w23_.heap.size) (a := w23_) (by go_grown) (Nat.le_refl _) hb
      have hs := hb.size
      (repeat (first | rw [World.size_alloc] at hs | rw [World.size_drew] at hs))
      replace kp0 := kp0.keep hx
      replace oM0 := Lib.hid (oM0.out.keep hx)
      replace oM1 := Lib.hid (oM1.out.keep hx)
      replace oZ0 := Lib.hid (oZ0.out.keep hx)
      replace oZ1 := Lib.hid (oZ1.out.keep hx)
      replace hL := chain (B := w.heap.size) (a := w) hL (by first | exact Nat.le_refl _ | simp) hx
      replace hBW := chain (B := w4_.heap.size) (a := w4_) hBW (Nat.le_refl _) hx
      replace hc : H4 ≤ w24_.heap.size := by omega
      clear hx hs hb
      clear oZ0 oZ1
      go_wp2_with fail
      have hqb0 : ¬ (1 + (l0.length : Int)) < 0 := by have := HLEN0.out; have := HLEN1.out; omega
      refine (heldInt64S_any _ l0.length (1) _ (oM0.out.keep (by go_grown)).reads (by have := HLEN0.out; omega) (by omega) (by have := HLEN0.out; have := HLEN1.out; omega)).mono ?_
      rintro e w25_ ⟨rfl, hb⟩
      have hx := chain (B := w24_.heap.size) (a := w24_) (by go_grown) (Nat.le_refl _) hb
      have hs := hb.size
      (repeat (first | rw [World.size_alloc] at hs | rw [World.size_drew] at hs))
      replace kp0 := kp0.keep hx
      replace oM0 := Lib.hid (oM0.out.keep hx)
      replace oM1 := Lib.hid (oM1.out.keep hx)
      replace hL := chain (B := w.heap.size) (a := w) hL (by first | exact Nat.le_refl _ | simp) hx
      replace hBW := chain (B := w4_.heap.size) (a := w4_) hBW (Nat.le_refl _) hx
      replace hc : H4 ≤ w25_.heap.size := by omega
      clear hx hs hb
      go_wp2_with fail
      have hqb1 : ¬ (1 + (l0.length : Int) + (l1.length : Int)) < 0 := by have := HLEN0.out; have := HLEN1.out; omega
      refine (heldInt64S_any _ l1.length (1 + (l0.length : Int)) _ (oM1.out.keep (by go_grown)).reads (by have := HLEN1.out; omega) (by omega) (by have := HLEN0.out; have := HLEN1.out; omega)).mono ?_
      rintro e w26_ ⟨rfl, hb⟩
      have hx := chain (B := w25_.heap.size) (a := w25_) (by go_grown) (Nat.le_refl _) hb
      have hs := hb.size
      (repeat (first | rw [World.size_alloc] at hs | rw [World.size_drew] at hs))
      replace kp0 := kp0.keep hx
      replace oM0 := Lib.hid (oM0.out.keep hx)
      replace oM1 := Lib.hid (oM1.out.keep hx)
      replace hL := chain (B := w.heap.size) (a := w) hL (by first | exact Nat.le_refl _ | simp) hx
      replace hBW := chain (B := w4_.heap.size) (a := w4_) hBW (Nat.le_refl _) hx
      replace hc : H4 ≤ w26_.heap.size := by omega
      clear hx hs hb
      go_wp2_with fail
      go_ret
      exact ⟨rfl, by first | assumption | go_grown⟩

end Go.Proofs.Ytnlcnbkookmfaaa
