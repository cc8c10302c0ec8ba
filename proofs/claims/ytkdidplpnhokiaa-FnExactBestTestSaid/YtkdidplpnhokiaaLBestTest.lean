/- The walk of FnExactBestTest. -/
import Derived.Test.YtkdidplpnhokiaaBsS
import Derived.Test.YtkdidplpnhokiaaTool
namespace Go.Proofs.Ytkdidplpnhokiaa
open Go.RowKit
set_option linter.unusedVariables false

set_option maxRecDepth 100000 in
set_option maxHeartbeats 8000000 in
theorem walkFnExactBestTest (va0 : Value) (p0 : Int) (xss0 : List Int) (yss0 : List (List Int)) (va1 : Value) (xss1 : List (List Int)) (w : World) (ha0 : ReadsW w va0 p0 xss0 yss0) (ha1 : Reads2 w va1 xss1) :
    Calls Try.prog 13 #[va0, va1] w fun e w' => e = .returned (.bool true) ∧ Below w.heap.size w w' := by
  have HR0 := Lib.hid ha0
  obtain ⟨a0, ca0, b0, cb0, rfl, _, _⟩ := ha0
  have HR1 := Lib.hid ha1
  obtain ⟨a1, ca1, rfl, _, _⟩ := ha1
  have kp0 : C3 (w.alloc (.cells #[.int .i64 p0, .slice a0 xss0.length ca0, .slice b0 yss0.length cb0] 25)) (w.heap.size) (.int .i64 p0) (.slice a0 xss0.length ca0) (.slice b0 yss0.length cb0) := by simpa using C3.here w (.int .i64 p0) (.slice a0 xss0.length ca0) (.slice b0 yss0.length cb0) 25
  have hL0 : Below w.heap.size w (w.alloc (.cells #[.int .i64 p0, .slice a0 xss0.length ca0, .slice b0 yss0.length cb0] 25)) := (Below.refl _ _).alloc (by simp) (.cells #[.int .i64 p0, .slice a0 xss0.length ca0, .slice b0 yss0.length cb0] 25)
  obtain ⟨z0, hz0⟩ : ∃ z, szW 1048576 xss0 yss0 = z := ⟨_, rfl⟩
  have HZ0 := Lib.hid hz0
  have ZB0 : Hid ((0 : Int) ≤ 1048576 ∧ (1048576 : Int) ≤ 1048576) := by unfold Hid; omega
  by_cases hzn0 : z0 = -1
  · subst hzn0
    clear hz0
    have hL := hL0
    clear hL0
    go_enter Try.func13, Try.ntmps13
    go_wp2_with fail
    refine (szWiring_any _ _ xss0 yss0 1048576 _ (HR0.out.keep (by go_grown)) ZB0.out.1 ZB0.out.2 HZ0.out).mono ?_
    rintro e we0 ⟨rfl, hb⟩
    replace hL := chain (B := w.heap.size) (a := w) hL (Nat.le_refl _) hb
    replace kp0 := keepAt3 hb kp0
    clear hb
    go_wp2_with fail
    go_ret
    exact ⟨rfl, hL⟩
  · obtain ⟨hfit0, hz00, hze0⟩ := purseW hz0 hzn0 (by omega)
    have HF0 := Lib.hid hfit0
    have HZE0 := Lib.hid hze0
    have hzneg0 : ¬ z0 < 0 := by omega
    have hzle0 : z0 ≤ 1048576 := by omega
    clear hz0 hzn0 hfit0 hze0
    obtain ⟨z1, hz1⟩ : ∃ z, szZ2 z0 xss1 = z := ⟨_, rfl⟩
    have HZ1 := Lib.hid hz1
    have ZB1 : Hid ((0 : Int) ≤ z0 ∧ (z0 : Int) ≤ 1048576) := by unfold Hid; omega
    by_cases hzn1 : z1 = -1
    · subst hzn1
      clear hz1
      have hL := hL0
      clear hL0
      go_enter Try.func13, Try.ntmps13
      go_wp2_with fail
      refine (szWiring_any _ _ xss0 yss0 1048576 _ (HR0.out.keep (by go_grown)) ZB0.out.1 ZB0.out.2 HZ0.out).mono ?_
      rintro e we0 ⟨rfl, hb⟩
      replace hL := chain (B := w.heap.size) (a := w) hL (Nat.le_refl _) hb
      replace kp0 := keepAt3 hb kp0
      clear hb
      go_wp2_with fail
      refine (szInt64SS_b _ xss1 z0 _ (HR1.out.keep (by go_grown)) ZB1.out.1 ZB1.out.2 HZ1.out).mono ?_
      rintro e we1 ⟨rfl, rfl⟩
      go_wp2_with fail
      go_ret
      exact ⟨rfl, hL⟩
    · obtain ⟨hn1, hlr1, hsum1, hz01, hze1⟩ := purseG hz1 hzn1 (by omega)
      have HN1 := Lib.hid hn1
      have HLR1 := Lib.hid hlr1
      have HSUM1 := Lib.hid hsum1
      have HZE1 := Lib.hid hze1
      have hzneg1 : ¬ z1 < 0 := by omega
      have hzle1 : z1 ≤ 1048576 := by omega
      clear hz1 hlr1 hn1 hzn1 hsum1 hze1
      obtain ⟨c0, hr_c0⟩ : ∃ x : Int, resBestTest_0 p0 xss0 yss0 xss1 = x := ⟨_, rfl⟩
      obtain ⟨c1, hr_c1⟩ : ∃ x : Int, resBestTest_1 p0 xss0 yss0 xss1 = x := ⟨_, rfl⟩
      have D1 : Hid (∀ (u_0 u_1 : Value) (w : World), ReadsW w u_0 p0 xss0 yss0 → Reads2 w u_1 xss1 → Calls Try.prog 49 #[u_0, u_1] w fun e w' => e = .returned (.tuple #[.int .i64 c0, .int .i64 c1]) ∧ Below w.heap.size w w') := fun u_0 u_1 w h0 h1 => by subst hr_c0 hr_c1; exact iBestTest_any u_0 p0 xss0 yss0 u_1 xss1 w h0 h1
      have D2 : Hid (∀ (u_0 u_1 : Value) (w : World), ReadsW w u_0 p0 xss0 yss0 → Reads2 w u_1 xss1 → Calls Try.prog 48 #[u_0, u_1] w fun e w' => e = .returned (.tuple #[.int .i64 c0, .int .i64 c1]) ∧ Below w.heap.size w w') := fun u_0 u_1 w h0 h1 => by subst hr_c0 hr_c1; exact sBestTest_any u_0 p0 xss0 yss0 u_1 xss1 w h0 h1
      clear hr_c0 hr_c1
      have hL := hL0
      clear hL0
      obtain ⟨H0, hH0, hc⟩ : ∃ H, w.heap.size + 1 ≤ H ∧ H ≤ w.heap.size + 1 := ⟨_, Nat.le_refl _, Nat.le_refl _⟩
      have hHU0 := hc
      go_enter Try.func13, Try.ntmps13
      go_wp2_with fail
      refine (szWiring_any _ _ xss0 yss0 1048576 _ (HR0.out.keep (by go_grown)) ZB0.out.1 ZB0.out.2 HZ0.out).mono ?_
      rintro e w1_ ⟨rfl, hb⟩
      have hx := chain (B := (w.alloc (.cells #[.int .i64 p0, .slice a0 xss0.length ca0, .slice b0 yss0.length cb0] 25)).heap.size) (a := (w.alloc (.cells #[.int .i64 p0, .slice a0 xss0.length ca0, .slice b0 yss0.length cb0] 25))) (by go_grown) (Nat.le_refl _) hb
      have hs := hb.size
      (repeat (first | rw [World.size_alloc] at hs | rw [World.size_drew] at hs))
      replace kp0 := kp0.keep hx
      replace hL := chain (B := w.heap.size) (a := w) hL (by first | exact Nat.le_refl _ | simp) hx
      replace hc : H0 ≤ w1_.heap.size := by omega
      clear hx hs hb
      go_wp2_with fail
      refine (szInt64SS_b _ xss1 z0 _ (HR1.out.keep (by go_grown)) ZB1.out.1 ZB1.out.2 HZ1.out).mono ?_
      rintro e w2_ ⟨rfl, rfl⟩
      go_wp2_with fail
      refine (toWiring_x _ _ xss0 yss0 _ (HR0.out.keep (by go_grown)) HF0.out).mono ?_
      rintro e w3_ ⟨na0, nc0, nb0, nd0, nB0, nC0, rfl, on, hB, ⟨hBC, hC⟩, hb⟩
      have hx := chain (B := w1_.heap.size) (a := w1_) (by go_grown) (Nat.le_refl _) hb
      have hs := hb.size
      (repeat (first | rw [World.size_alloc] at hs | rw [World.size_drew] at hs))
      replace kp0 := kp0.keep hx
      replace hL := chain (B := w.heap.size) (a := w) hL (by first | exact Nat.le_refl _ | simp) hx
      have on0 := Lib.hid on
      replace hc : H0 ≤ w3_.heap.size := by omega
      clear hx hs hb hB hBC hC on
      go_wp2_with fail
      refine (toInt64SS_x _ xss1 _ (HR1.out.keep (by go_grown)) HN1.out HLR1.out).mono ?_
      rintro e w4_ ⟨nu1, nB1, nC1, rfl, on, hB, ⟨hBC, hC⟩, hb⟩
      have hx := chain (B := w3_.heap.size) (a := w3_) (by go_grown) (Nat.le_refl _) hb
      have hs := hb.size
      (repeat (first | rw [World.size_alloc] at hs | rw [World.size_drew] at hs))
      replace kp0 := kp0.keep hx
      replace on0 := Lib.hid (on0.out.keep hx)
      replace hL := chain (B := w.heap.size) (a := w) hL (by first | exact Nat.le_refl _ | simp) hx
      have on1 := Lib.hid on
      replace hc : H0 ≤ w4_.heap.size := by omega
      clear hx hs hb hB hBC hC on
      go_wp2_with fail
      refine (D2.out _ _ _ on0.out.reads on1.out.reads).mono ?_
      rintro e w5_ ⟨rfl, hb⟩
      have hx := chain (B := w4_.heap.size) (a := w4_) (by go_grown) (Nat.le_refl _) hb
      have hs := hb.size
      (repeat (first | rw [World.size_alloc] at hs | rw [World.size_drew] at hs))
      replace kp0 := kp0.keep hx
      replace on0 := Lib.hid (on0.out.keep hx)
      replace on1 := Lib.hid (on1.out.keep hx)
      replace hL := chain (B := w.heap.size) (a := w) hL (by first | exact Nat.le_refl _ | simp) hx
      replace hc : H0 ≤ w5_.heap.size := by omega
      clear hx hs hb
      clear on0 on1
      obtain ⟨H1, hH1, hcn⟩ : ∃ H, w5_.heap.size ≤ H ∧ H ≤ w5_.heap.size := ⟨_, Nat.le_refl _, Nat.le_refl _⟩
      have hHH1 : H0 ≤ H1 := by omega
      have hHU1 := hcn
      clear hc
      have hc := hcn
      clear hcn
      go_wp2_with fail
      refine (toWiring_x _ _ xss0 yss0 _ (HR0.out.keep (by go_grown)) HF0.out).mono ?_
      rintro e w6_ ⟨xa0, xc0, xb0, xd0, xB0, xC0, rfl, on, hB, ⟨hBC, hC⟩, hb⟩
      have hx := chain (B := w5_.heap.size) (a := w5_) (by go_grown) (Nat.le_refl _) hb
      have hs := hb.size
      (repeat (first | rw [World.size_alloc] at hs | rw [World.size_drew] at hs))
      replace kp0 := kp0.keep hx
      replace hL := chain (B := w.heap.size) (a := w) hL (by first | exact Nat.le_refl _ | simp) hx
      (repeat (first | rw [World.size_alloc] at hB | rw [World.size_drew] at hB))
      have hLO0 : H1 ≤ xB0 := by omega
      have hHI0 := hC
      obtain ⟨H2, hH2, hcn⟩ : ∃ H, w6_.heap.size + 1 ≤ H ∧ H ≤ w6_.heap.size + 1 := ⟨_, Nat.le_refl _, Nat.le_refl _⟩
      have hHH2 : H1 ≤ H2 := by omega
      have hHU2 := hcn
      clear hc
      have hc := hcn
      clear hcn
      clear hx hs hb hB hC
      have ox0 := Lib.hid on
      clear on
      have hBC0 := hBC
      clear hBC
      go_wp2_with fail
      refine (toInt64SS_x _ xss1 _ (HR1.out.keep (by go_grown)) HN1.out HLR1.out).mono ?_
      rintro e w7_ ⟨xu1, xB1, xC1, rfl, on, hB, ⟨hBC, hC⟩, hb⟩
      have hx := chain (B := w6_.heap.size) (a := w6_) (by go_grown) (Nat.le_refl _) hb
      have hs := hb.size
      (repeat (first | rw [World.size_alloc] at hs | rw [World.size_drew] at hs))
      replace kp0 := kp0.keep hx
      replace ox0 := Lib.hid (ox0.out.keep hx)
      have kx0 := keepAt3 hb (C3.here w6_ (.int .i64 p0) (.slice xa0 xss0.length xc0) (.slice xb0 yss0.length xd0) 28)
      replace hL := chain (B := w.heap.size) (a := w) hL (by first | exact Nat.le_refl _ | simp) hx
      (repeat (first | rw [World.size_alloc] at hB | rw [World.size_drew] at hB))
      have hLO1 : H2 ≤ xB1 := by omega
      have hHI1 := hC
      obtain ⟨H3, hH3, hcn⟩ : ∃ H, w7_.heap.size ≤ H ∧ H ≤ w7_.heap.size := ⟨_, Nat.le_refl _, Nat.le_refl _⟩
      have hHH3 : H2 ≤ H3 := by omega
      have hHU3 := hcn
      clear hc
      have hc := hcn
      clear hcn
      clear hx hs hb hB hC
      have ox1 := Lib.hid on
      clear on
      have hBC1 := hBC
      clear hBC
      go_wp2_with fail
      refine (D1.out _ _ _ (ox0.out.keep (by first | go_grown | exact (Below.refl _ _).alloc (Nat.le_refl _) _)).reads (ox1.out.keep (by first | go_grown | exact (Below.refl _ _).alloc (Nat.le_refl _) _)).reads).mono ?_
      rintro e w8_ ⟨rfl, hb⟩
      have hx := chain (B := w7_.heap.size) (a := w7_) (by go_grown) (Nat.le_refl _) hb
      have hs := hb.size
      (repeat (first | rw [World.size_alloc] at hs | rw [World.size_drew] at hs))
      replace kp0 := kp0.keep hx
      replace kx0 := kx0.keep hx
      replace ox0 := Lib.hid (ox0.out.keep hx)
      replace ox1 := Lib.hid (ox1.out.keep hx)
      replace hL := chain (B := w.heap.size) (a := w) hL (by first | exact Nat.le_refl _ | simp) hx
      replace hc : H3 ≤ w8_.heap.size := by omega
      clear hx hs hb
      go_wp2_with fail
      have RXd := Lib.hid ox0.out.reads
      go_upto_region 10 with fail
      go_region_held3 (fun w' => C3 w' w6_.heap.size (.int .i64 p0) (.slice xa0 xss0.length xc0) (.slice xb0 yss0.length xd0) ∧ C3 w' (w.heap.size) (.int .i64 p0) (.slice a0 xss0.length ca0) (.slice b0 yss0.length cb0)) ((first | (refine ⟨?_, ?_⟩ <;> ((repeat' (first | (with_reducible assumption) | (with_reducible refine C2.drewU ?_) | (with_reducible refine C2.alloc ?_ _) | (with_reducible refine C2.set ?_ _ _ _ (by omega)) | (with_reducible refine C3.drewU ?_) | (with_reducible refine C3.alloc ?_ _) | (with_reducible refine C3.set ?_ _ _ _ (by omega)))); done)) | ((repeat' (first | (with_reducible assumption) | (with_reducible refine C2.drewU ?_) | (with_reducible refine C2.alloc ?_ _) | (with_reducible refine C2.set ?_ _ _ _ (by omega)) | (with_reducible refine C3.drewU ?_) | (with_reducible refine C3.alloc ?_ _) | (with_reducible refine C3.set ?_ _ _ _ (by omega)))); done))) (first | (go_at_call 17; (with_reducible refine (toWiring_x _ _ xss0 yss0 _ (HR0.out.keep (by go_grown)) HF0.out).mono ?_); rintro e wq0 ⟨ya, yc, yb, yd, yB, yC, rfl, oy, yhB, yhC, hb⟩; have hs := hb.size; (repeat (first | rw [World.size_alloc] at hs | rw [World.size_drew] at hs)); have hL := chain (B := w.heap.size) (a := w) (by go_grown) (Nat.le_refl _) hb; replace kp0 := keepAt3 hb (show C3 _ (w.heap.size) (.int .i64 p0) (.slice a0 xss0.length ca0) (.slice b0 yss0.length cb0) from by (repeat' (first | (with_reducible assumption) | (with_reducible refine C2.drewU ?_) | (with_reducible refine C2.alloc ?_ _) | (with_reducible refine C3.drewU ?_) | (with_reducible refine C3.alloc ?_ _)))); replace kx0 := keepAt3 hb (show C3 _ w6_.heap.size (.int .i64 p0) (.slice xa0 xss0.length xc0) (.slice xb0 yss0.length xd0) from by (repeat' (first | (with_reducible assumption) | (with_reducible refine C2.drewU ?_) | (with_reducible refine C2.alloc ?_ _) | (with_reducible refine C3.drewU ?_) | (with_reducible refine C3.alloc ?_ _)))); replace ox0 := Lib.hid (ownWAt hb ox0.out); replace ox1 := Lib.hid (own2At hb ox1.out); have RY := Lib.hid oy.reads; replace RXd := Lib.hid (readsWAt hb RXd.out); clear hb oy yhB yhC) | (go_at_call 19; (with_reducible refine (eqWiring_same _ _ _ xss0 yss0 _ RXd.out RY.out).mono ?_); rintro e wd0 ⟨rfl, hb⟩; have hs2 := hb.size; (repeat (first | rw [World.size_alloc] at hs2 | rw [World.size_drew] at hs2)); have hL := chain (B := w.heap.size) (a := w) (by go_grown) (Nat.le_refl _) hb; replace kp0 := keepAt3 hb (show C3 _ (w.heap.size) (.int .i64 p0) (.slice a0 xss0.length ca0) (.slice b0 yss0.length cb0) from by (repeat' (first | (with_reducible assumption) | (with_reducible refine C2.drewU ?_) | (with_reducible refine C2.alloc ?_ _) | (with_reducible refine C3.drewU ?_) | (with_reducible refine C3.alloc ?_ _)))); replace kx0 := keepAt3 hb (show C3 _ w6_.heap.size (.int .i64 p0) (.slice xa0 xss0.length xc0) (.slice xb0 yss0.length xd0) from by (repeat' (first | (with_reducible assumption) | (with_reducible refine C2.drewU ?_) | (with_reducible refine C2.alloc ?_ _) | (with_reducible refine C3.drewU ?_) | (with_reducible refine C3.alloc ?_ _)))); replace ox0 := Lib.hid (ownWAt hb ox0.out); replace ox1 := Lib.hid (own2At hb ox1.out); clear hb RXd RY))
      have hcn : H3 ≤ wd0.heap.size := by omega
      clear hc hs hs2
      have hc := hcn
      clear hcn
      go_wp2_with fail
      refine (toInt64SS_x _ xss1 _ (HR1.out.keep (by go_grown)) HN1.out HLR1.out).mono ?_
      rintro e w9_ ⟨yu1, yB1, yC1, rfl, on, hB, ⟨hBC, hC⟩, hb⟩
      have hx := chain (B := wd0.heap.size) (a := wd0) (by go_grown) (Nat.le_refl _) hb
      have hs := hb.size
      (repeat (first | rw [World.size_alloc] at hs | rw [World.size_drew] at hs))
      replace kp0 := kp0.keep hx
      replace kx0 := kx0.keep hx
      replace ox0 := Lib.hid (ox0.out.keep hx)
      replace ox1 := Lib.hid (ox1.out.keep hx)
      replace hL := chain (B := w.heap.size) (a := w) hL (by first | exact Nat.le_refl _ | simp) hx
      have oy1 := Lib.hid on
      replace hc : H3 ≤ w9_.heap.size := by omega
      clear hx hs hb hB hBC hC on
      go_wp2_with fail
      refine (eqInt64SS_same _ _ xss1 _ (ox1.out.keep (by go_grown)).reads (oy1.out.keep (by go_grown)).reads).mono ?_
      rintro e w10_ ⟨rfl, hb⟩
      have hx := chain (B := w9_.heap.size) (a := w9_) (by go_grown) (Nat.le_refl _) hb
      have hs := hb.size
      (repeat (first | rw [World.size_alloc] at hs | rw [World.size_drew] at hs))
      replace kp0 := kp0.keep hx
      replace kx0 := kx0.keep hx
      replace ox0 := Lib.hid (ox0.out.keep hx)
      replace ox1 := Lib.hid (ox1.out.keep hx)
      replace oy1 := Lib.hid (oy1.out.keep hx)
      replace hL := chain (B := w.heap.size) (a := w) hL (by first | exact Nat.le_refl _ | simp) hx
      replace hc : H3 ≤ w10_.heap.size := by omega
      clear hx hs hb
      clear oy1
      go_wp2_with fail
      go_ret
      exact ⟨rfl, by first | assumption | go_grown⟩

end Go.Proofs.Ytkdidplpnhokiaa
