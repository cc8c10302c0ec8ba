/- The walk of FnExactExchangeEnds. -/
import Derived.Test.YtnmjdphibphpnaaExS
import Derived.Test.YtnmjdphibphpnaaLk
namespace Go.Proofs.Ytnmjdphibphpnaa
open Go.RowKit
set_option linter.unusedVariables false

set_option maxRecDepth 100000 in
set_option maxHeartbeats 8000000 in
theorem walkFnExactExchangeEnds (p0 : Int) (va0 : Value) (xss0 : List (List Int)) (w : World) (ha0 : Reads2 w va0 xss0) :
    Calls Try.prog 3 #[.agg #[.int .i64 p0, va0]] w fun e w' => e = .returned (.bool true) ∧ Below w.heap.size w w' := by
  have HR0 := Lib.hid ha0
  obtain ⟨a0, ca0, rfl, _, _⟩ := ha0
  have kp0 : C2 (w.alloc (.cells #[.int .i64 p0, .slice a0 xss0.length ca0] 24)) (w.heap.size) (.int .i64 p0) (.slice a0 xss0.length ca0) := by simpa using C2.here w (.int .i64 p0) (.slice a0 xss0.length ca0) 24
  have hL0 : Below w.heap.size w (w.alloc (.cells #[.int .i64 p0, .slice a0 xss0.length ca0] 24)) := (Below.refl _ _).alloc (by simp) (.cells #[.int .i64 p0, .slice a0 xss0.length ca0] 24)
  obtain ⟨z0, hz0⟩ : ∃ z, szZ2 1048576 xss0 = z := ⟨_, rfl⟩
  have HZ0 := Lib.hid hz0
  have ZB0 : Hid ((0 : Int) ≤ 1048576 ∧ (1048576 : Int) ≤ 1048576) := by unfold Hid; omega
  by_cases hzn0 : z0 = -1
  · subst hzn0
    clear hz0
    have hL := hL0
    clear hL0
    go_enter Try.func3, Try.ntmps3
    go_wp2_with fail
    refine (szNetwork_any _ _ xss0 1048576 _ (HR0.out.keep (by go_grown)) ZB0.out.1 ZB0.out.2 HZ0.out).mono ?_
    rintro e we0 ⟨rfl, hb⟩
    replace hL := chain (B := w.heap.size) (a := w) hL (Nat.le_refl _) hb
    replace kp0 := keepAt hb kp0
    clear hb
    go_wp2_with fail
    go_ret
    exact ⟨rfl, hL⟩
  · obtain ⟨hn0, hlr0, hsum0, hz00, hze0⟩ := purseG hz0 hzn0 (by omega)
    have HN0 := Lib.hid hn0
    have HLR0 := Lib.hid hlr0
    have HSUM0 := Lib.hid hsum0
    have HZE0 := Lib.hid hze0
    have hzneg0 : ¬ z0 < 0 := by omega
    clear hz0 hlr0 hn0 hzn0 hsum0
    obtain ⟨rp0, hr_rp0⟩ : ∃ x : Int, resExchangeEnds_0p p0 xss0 = x := ⟨_, rfl⟩
    obtain ⟨l0, hr_l0⟩ : ∃ x : List (List Int), resExchangeEnds_0 p0 xss0 = x := ⟨_, rfl⟩
    have HLEN0 : Hid (l0.length ≤ 100000 ∧ l0.length + sumLen l0 l0.length ≤ 1000000 ∧ ∀ i, i < l0.length → (l0.getD i []).length ≤ 1048576) := by rw [← hr_l0]; exact lenExchangeEnds_0 p0 xss0
    obtain ⟨c1, hr_c1⟩ : ∃ x : Int, resExchangeEnds_1 p0 xss0 = x := ⟨_, rfl⟩
    have D1 : Hid (∀ (u_0 : Value) (w : World), Reads2 w u_0 xss0 → Calls Try.prog 15 #[.agg #[.int .i64 p0, u_0]] w fun e w' => ∃ sa0 sc0, e = .returned (.tuple #[.agg #[.int .i64 rp0, .slice sa0 l0.length sc0], .int .i64 c1]) ∧ Own2 w' w.heap.size w'.heap.size (.slice sa0 l0.length sc0) l0 ∧ Below w.heap.size w w') := fun u_0 w h0 => by subst hr_rp0 hr_l0 hr_c1; exact iExchangeEnds_any p0 u_0 xss0 w h0
    have D2 : Hid (∀ (u_0 : Value) (w : World), Reads2 w u_0 xss0 → Calls Try.prog 13 #[.agg #[.int .i64 p0, u_0]] w fun e w' => ∃ sa0 sc0, e = .returned (.tuple #[.agg #[.int .i64 rp0, .slice sa0 l0.length sc0], .int .i64 c1]) ∧ Reads2 w' (.slice sa0 l0.length sc0) l0 ∧ Below w.heap.size w w') := fun u_0 w h0 => by subst hr_rp0 hr_l0 hr_c1; exact sExchangeEnds_any p0 u_0 xss0 w h0
    clear hr_rp0 hr_l0 hr_c1
    have hL := hL0
    clear hL0
    obtain ⟨H0, hH0, hc⟩ : ∃ H, w.heap.size + 1 ≤ H ∧ H ≤ w.heap.size + 1 := ⟨_, Nat.le_refl _, Nat.le_refl _⟩
    go_enter Try.func3, Try.ntmps3
    go_wp2_with fail
    refine (szNetwork_any _ _ xss0 1048576 _ (HR0.out.keep (by go_grown)) ZB0.out.1 ZB0.out.2 HZ0.out).mono ?_
    rintro e w1_ ⟨rfl, hb⟩
    have hx := chain (B := (w.alloc (.cells #[.int .i64 p0, .slice a0 xss0.length ca0] 24)).heap.size) (a := (w.alloc (.cells #[.int .i64 p0, .slice a0 xss0.length ca0] 24))) (by go_grown) (Nat.le_refl _) hb
    have hs := hb.size
    (repeat (first | rw [World.size_alloc] at hs | rw [World.size_drew] at hs))
    replace kp0 := kp0.keep hx
    replace hL := chain (B := w.heap.size) (a := w) hL (by first | exact Nat.le_refl _ | simp) hx
    replace hc : H0 ≤ w1_.heap.size := by omega
    clear hx hs hb
    go_wp2_with fail
    refine (toNetwork_x _ _ xss0 _ (HR0.out.keep (by go_grown)) HN0.out HLR0.out).mono ?_
    rintro e w2_ ⟨na0, nc0, nB0, nC0, rfl, on, hB, ⟨hBC, hC⟩, hb⟩
    have hx := chain (B := w1_.heap.size) (a := w1_) (by go_grown) (Nat.le_refl _) hb
    have hs := hb.size
    (repeat (first | rw [World.size_alloc] at hs | rw [World.size_drew] at hs))
    replace kp0 := kp0.keep hx
    replace hL := chain (B := w.heap.size) (a := w) hL (by first | exact Nat.le_refl _ | simp) hx
    have on0 := Lib.hid on
    replace hc : H0 ≤ w2_.heap.size := by omega
    clear hx hs hb hB hBC hC on
    go_wp2_with fail
    refine (D2.out _ _ on0.out.reads).mono ?_
    rintro e w3_ ⟨Wa0, Wc0, rfl, of0, hb⟩
    have hx := chain (B := w2_.heap.size) (a := w2_) (by go_grown) (Nat.le_refl _) hb
    have hs := hb.size
    (repeat (first | rw [World.size_alloc] at hs | rw [World.size_drew] at hs))
    replace kp0 := kp0.keep hx
    replace on0 := Lib.hid (on0.out.keep hx)
    replace hL := chain (B := w.heap.size) (a := w) hL (by first | exact Nat.le_refl _ | simp) hx
    have HW0 := Lib.hid of0
    replace hc : H0 ≤ w3_.heap.size := by omega
    clear hx hs hb of0
    clear on0
    have hBW : Below w3_.heap.size w3_ w3_ := Below.refl _ _
    obtain ⟨H1, hH1, hcn⟩ : ∃ H, w3_.heap.size + 1 ≤ H ∧ H ≤ w3_.heap.size + 1 := ⟨_, Nat.le_refl _, Nat.le_refl _⟩
    have hHH1 : H0 ≤ H1 := by omega
    have hHU1 := hcn
    clear hc
    have hc := hcn
    clear hcn
    go_wp2_with fail
    refine (toNetwork_x _ _ xss0 _ (HR0.out.keep (by go_grown)) HN0.out HLR0.out).mono ?_
    rintro e w4_ ⟨xa0, xc0, xB0, xC0, rfl, on, hB, ⟨hBC, hC⟩, hb⟩
    have hx := chain (B := w3_.heap.size) (a := w3_) (by go_grown) (Nat.le_refl _) hb
    have hs := hb.size
    (repeat (first | rw [World.size_alloc] at hs | rw [World.size_drew] at hs))
    replace kp0 := kp0.keep hx
    have kW0 := keepAt hb (C2.here w3_ (.int .i64 rp0) (.slice Wa0 l0.length Wc0) 26)
    replace hL := chain (B := w.heap.size) (a := w) hL (by first | exact Nat.le_refl _ | simp) hx
    replace hBW := chain (B := w3_.heap.size) (a := w3_) hBW (Nat.le_refl _) hx
    (repeat (first | rw [World.size_alloc] at hB | rw [World.size_drew] at hB))
    have hLO0 : H1 ≤ xB0 := by omega
    have hHI0 := hC
    obtain ⟨H2, hH2, hcn⟩ : ∃ H, w4_.heap.size + 1 ≤ H ∧ H ≤ w4_.heap.size + 1 := ⟨_, Nat.le_refl _, Nat.le_refl _⟩
    have hHH2 : H1 ≤ H2 := by omega
    have hHU2 := hcn
    clear hc
    have hc := hcn
    clear hcn
    clear hx hs hb hB hC
    have ox0 := Lib.hid on
    clear on
    have hBC0 := hBC
    clear hBC
    go_wp2_with fail
    refine (D1.out _ _ (ox0.out.keep (by first | go_grown | exact (Below.refl _ _).alloc (Nat.le_refl _) _)).reads).mono ?_
    rintro e w5_ ⟨Ga0, Gc0, rfl, of0, hb⟩
    have hx := chain (B := w4_.heap.size) (a := w4_) (by go_grown) (Nat.le_refl _) hb
    have hs := hb.size
    (repeat (first | rw [World.size_alloc] at hs | rw [World.size_drew] at hs))
    replace kp0 := kp0.keep hx
    replace kW0 := kW0.keep hx
    replace ox0 := Lib.hid (ox0.out.keep hx)
    have kx0 := keepAt hb (C2.here w4_ (.int .i64 p0) (.slice xa0 xss0.length xc0) 26)
    replace hL := chain (B := w.heap.size) (a := w) hL (by first | exact Nat.le_refl _ | simp) hx
    replace hBW := chain (B := w3_.heap.size) (a := w3_) hBW (Nat.le_refl _) hx
    (repeat (first | rw [World.size_alloc] at of0 | rw [World.size_drew] at of0))
    obtain ⟨H3, hH3, hcn⟩ : ∃ H, w5_.heap.size ≤ H ∧ H ≤ w5_.heap.size := ⟨_, Nat.le_refl _, Nat.le_refl _⟩
    have hHH3 : H2 ≤ H3 := by omega
    have hco := hc
    have hHU3 := hcn
    clear hc
    have hc := hcn
    clear hcn
    have oG0 := Lib.hid (of0.mono (B' := H2) (C' := H3) (by omega) (by omega))
    clear of0
    clear hx hs hb hco
    go_wp2_with fail
    refine (eqNetwork_same _ _ _ l0 _ (oG0.out.keep (by go_grown)).reads (HW0.out.keep (by go_grown))).mono ?_
    rintro e w6_ ⟨rfl, hb⟩
    have hx := chain (B := w5_.heap.size) (a := w5_) (by go_grown) (Nat.le_refl _) hb
    have hs := hb.size
    (repeat (first | rw [World.size_alloc] at hs | rw [World.size_drew] at hs))
    replace kp0 := kp0.keep hx
    replace kW0 := kW0.keep hx
    replace kx0 := kx0.keep hx
    replace ox0 := Lib.hid (ox0.out.keep hx)
    replace oG0 := Lib.hid (oG0.out.keep hx)
    have kG0 := keepAt hb (C2.here w5_ (.int .i64 rp0) (.slice Ga0 l0.length Gc0) 26)
    replace hL := chain (B := w.heap.size) (a := w) hL (by first | exact Nat.le_refl _ | simp) hx
    replace hBW := chain (B := w3_.heap.size) (a := w3_) hBW (Nat.le_refl _) hx
    replace hc : H3 ≤ w6_.heap.size := by omega
    clear hx hs hb
    go_wp2_with fail
    have RXd := Lib.hid ox0.out.reads
    go_upto_region 10 with fail
    go_region_with (first | (go_at_call 14; (with_reducible refine (toNetwork_any _ _ xss0 _ (HR0.out.keep (by go_grown)) HN0.out HLR0.out).mono ?_); rintro e wq0 ⟨ya, yc, rfl, oy, hb⟩; have hs := hb.size; (repeat (first | rw [World.size_alloc] at hs | rw [World.size_drew] at hs)); have hL := chain (B := w.heap.size) (a := w) (by go_grown) (Nat.le_refl _) hb; have hBW := chain (B := w3_.heap.size) (a := w3_) (by go_grown) (Nat.le_refl _) hb; replace kp0 := keepAt hb (show C2 _ _ _ _ from by first | exact kp0 | exact C2.alloc kp0 _); replace kW0 := keepAt hb (show C2 _ _ _ _ from by first | exact kW0 | exact C2.alloc kW0 _); replace kx0 := keepAt hb (show C2 _ _ _ _ from by first | exact kx0 | exact C2.alloc kx0 _); replace kG0 := keepAt hb (show C2 _ _ _ _ from by first | exact kG0 | exact C2.alloc kG0 _); replace ox0 := Lib.hid (own2At hb ox0.out); replace oG0 := Lib.hid (own2At hb oG0.out); have RY := Lib.hid oy.reads; replace RXd := Lib.hid (reads2At hb RXd.out); clear hb oy) | (go_at_call 16; (with_reducible refine (eqNetwork_same _ _ _ xss0 _ RXd.out RY.out).mono ?_); rintro e wd0 ⟨rfl, hb⟩; have hs2 := hb.size; (repeat (first | rw [World.size_alloc] at hs2 | rw [World.size_drew] at hs2)); have hL := chain (B := w.heap.size) (a := w) (by go_grown) (Nat.le_refl _) hb; have hBW := chain (B := w3_.heap.size) (a := w3_) (by go_grown) (Nat.le_refl _) hb; replace kp0 := keepAt hb (show C2 _ _ _ _ from by first | exact kp0 | exact C2.alloc kp0 _); replace kW0 := keepAt hb (show C2 _ _ _ _ from by first | exact kW0 | exact C2.alloc kW0 _); replace kx0 := keepAt hb (show C2 _ _ _ _ from by first | exact kx0 | exact C2.alloc kx0 _); replace kG0 := keepAt hb (show C2 _ _ _ _ from by first | exact kG0 | exact C2.alloc kG0 _); replace ox0 := Lib.hid (own2At hb ox0.out); replace oG0 := Lib.hid (own2At hb oG0.out); clear hb RXd RY))
    all_goals (have hcn : H3 ≤ wd0.heap.size := by omega)
    all_goals (clear hc hs hs2)
    all_goals (have hc := hcn)
    all_goals (clear hcn)
    all_goals (go_wp2_with fail)
    all_goals (clear kx0)
    all_goals (refine (markNetwork_any p0 _ _ _ xss0 (1) _ ox0.out (by omega) HLR0.out (by omega) (by have := HSUM0.out; have := HZE0.out; omega)).mono ?_)
    all_goals (rintro e w7_ ⟨rfl, om, oo⟩)
    all_goals (have hs := oo.size)
    all_goals ((repeat (first | rw [World.size_alloc] at hs | rw [World.size_drew] at hs)))
    all_goals (replace kp0 := C2.only kp0 oo (by have := kp0.2.2.2.2; omega))
    all_goals (replace kW0 := C2.only kW0 oo (by have := kW0.2.2.2.2; omega))
    all_goals (replace kG0 := C2.only kG0 oo (by have := kG0.2.2.2.2; omega))
    all_goals (replace oG0 := Lib.hid (oG0.out.only oo (by omega)))
    all_goals (replace hL := Only.under hL oo (by omega) (by have := hL.size; omega))
    all_goals (replace hBW := Only.under hBW oo (by omega) (by have := hBW.size; omega))
    all_goals (replace hc : H3 ≤ w7_.heap.size := by omega)
    all_goals (clear ox0)
    all_goals (clear om oo hs)
    all_goals (have hneg : ¬ (1 + ((sumLen xss0 xss0.length : Nat) : Int)) < 0 := by have := HSUM0.out; have := HZE0.out; omega)
    all_goals (go_wp2_with fail)
    all_goals (refine (eqNetwork_same _ _ _ l0 _ (oG0.out.keep (by go_grown)).reads (HW0.out.keep (by go_grown))).mono ?_)
    all_goals (rintro e w8_ ⟨rfl, hb⟩)
    all_goals (have hx := chain (B := w7_.heap.size) (a := w7_) (by go_grown) (Nat.le_refl _) hb)
    all_goals (have hs := hb.size)
    all_goals ((repeat (first | rw [World.size_alloc] at hs | rw [World.size_drew] at hs)))
    all_goals (replace kp0 := kp0.keep hx)
    all_goals (replace kW0 := kW0.keep hx)
    all_goals (replace kG0 := kG0.keep hx)
    all_goals (replace oG0 := Lib.hid (oG0.out.keep hx))
    all_goals (replace hL := chain (B := w.heap.size) (a := w) hL (by first | exact Nat.le_refl _ | simp) hx)
    all_goals (replace hBW := chain (B := w3_.heap.size) (a := w3_) hBW (Nat.le_refl _) hx)
    all_goals (replace hc : H3 ≤ w8_.heap.size := by omega)
    all_goals (clear hx hs hb)
    all_goals (go_wp2_with fail)
    all_goals (refine (markNetwork_any rp0 _ _ _ l0 (1) _ oG0.out (by omega) HLEN0.out.2.2 (by omega) (by have := HLEN0.out.2.1; have := HLEN0.out.1; omega)).mono ?_)
    all_goals (rintro e w9_ ⟨rfl, om, oo⟩)
    all_goals (have hs := oo.size)
    all_goals ((repeat (first | rw [World.size_alloc] at hs | rw [World.size_drew] at hs)))
    all_goals (replace kp0 := C2.only kp0 oo (by have := kp0.2.2.2.2; omega))
    all_goals (replace kW0 := C2.only kW0 oo (by have := kW0.2.2.2.2; omega))
    all_goals (replace kG0 := C2.only kG0 oo (by have := kG0.2.2.2.2; omega))
    all_goals (replace hL := Only.under hL oo (by omega) (by have := hL.size; omega))
    all_goals (replace hBW := Only.under hBW oo (by omega) (by have := hBW.size; omega))
    all_goals (replace hc : H3 ≤ w9_.heap.size := by omega)
    all_goals (clear oG0)
    all_goals (have oM0 := Lib.hid om)
    all_goals (clear om oo hs)
    all_goals (go_wp2_with fail)
    all_goals (have hqa0 : ¬ (1 + ((sumLen l0 l0.length : Nat) : Int)) < 0 := by have := HLEN0.out.2.1; have := HLEN0.out.1; omega)
    all_goals (refine (heldNetwork_any rp0 _ l0 (1) _ (oM0.out.keep (by go_grown)).reads HLEN0.out.2.2 (by omega) (by have := HLEN0.out.2.1; have := HLEN0.out.1; omega)).mono ?_)
    all_goals (rintro e w10_ ⟨rfl, hb⟩)
    all_goals (have hx := chain (B := w9_.heap.size) (a := w9_) (by go_grown) (Nat.le_refl _) hb)
    all_goals (have hs := hb.size)
    all_goals ((repeat (first | rw [World.size_alloc] at hs | rw [World.size_drew] at hs)))
    all_goals (replace kp0 := kp0.keep hx)
    all_goals (replace kW0 := kW0.keep hx)
    all_goals (replace kG0 := kG0.keep hx)
    all_goals (replace oM0 := Lib.hid (oM0.out.keep hx))
    all_goals (replace hL := chain (B := w.heap.size) (a := w) hL (by first | exact Nat.le_refl _ | simp) hx)
    all_goals (replace hBW := chain (B := w3_.heap.size) (a := w3_) hBW (Nat.le_refl _) hx)
    all_goals (replace hc : H3 ≤ w10_.heap.size := by omega)
    all_goals (clear hx hs hb)
    all_goals (clear hqa0)
    all_goals (go_wp2_with fail)
    all_goals (refine (toNetwork_x _ _ xss0 _ (HR0.out.keep (by go_grown)) HN0.out HLR0.out).mono ?_)
    all_goals (rintro e w11_ ⟨ha0, hc0, hB0, hC0, rfl, on, hB, ⟨hBC, hC⟩, hb⟩)
    all_goals (have hx := chain (B := w10_.heap.size) (a := w10_) (by go_grown) (Nat.le_refl _) hb)
    all_goals (have hs := hb.size)
    all_goals ((repeat (first | rw [World.size_alloc] at hs | rw [World.size_drew] at hs)))
    all_goals (replace kp0 := kp0.keep hx)
    all_goals (replace kW0 := kW0.keep hx)
    all_goals (replace kG0 := kG0.keep hx)
    all_goals (replace oM0 := Lib.hid (oM0.out.keep hx))
    all_goals (replace hL := chain (B := w.heap.size) (a := w) hL (by first | exact Nat.le_refl _ | simp) hx)
    all_goals (replace hBW := chain (B := w3_.heap.size) (a := w3_) hBW (Nat.le_refl _) hx)
    all_goals (have oh0 := Lib.hid on)
    all_goals (replace hc : H3 ≤ w11_.heap.size := by omega)
    all_goals (clear hx hs hb hB hBC hC on)
    all_goals (go_wp2_with fail)
    all_goals (refine (D1.out _ _ oh0.out.reads).mono ?_)
    all_goals (rintro e w12_ ⟨Za0, Zc0, rfl, of0, hb⟩)
    all_goals (have hx := chain (B := w11_.heap.size) (a := w11_) (by go_grown) (Nat.le_refl _) hb)
    all_goals (have hs := hb.size)
    all_goals ((repeat (first | rw [World.size_alloc] at hs | rw [World.size_drew] at hs)))
    all_goals (replace kp0 := kp0.keep hx)
    all_goals (replace kW0 := kW0.keep hx)
    all_goals (replace kG0 := kG0.keep hx)
    all_goals (replace oM0 := Lib.hid (oM0.out.keep hx))
    all_goals (replace oh0 := Lib.hid (oh0.out.keep hx))
    all_goals (replace hL := chain (B := w.heap.size) (a := w) hL (by first | exact Nat.le_refl _ | simp) hx)
    all_goals (replace hBW := chain (B := w3_.heap.size) (a := w3_) hBW (Nat.le_refl _) hx)
    all_goals (have oZ0 := Lib.hid of0)
    all_goals (clear of0)
    all_goals (replace hc : H3 ≤ w12_.heap.size := by omega)
    all_goals (clear hx hs hb)
    all_goals (clear oh0)
    all_goals (go_wp2_with fail)
    all_goals (refine (eqNetwork_same _ _ _ l0 _ (oZ0.out.keep (by go_grown)).reads (HW0.out.keep (by go_grown))).mono ?_)
    all_goals (rintro e w13_ ⟨rfl, hb⟩)
    all_goals (have hx := chain (B := w12_.heap.size) (a := w12_) (by go_grown) (Nat.le_refl _) hb)
    all_goals (have hs := hb.size)
    all_goals ((repeat (first | rw [World.size_alloc] at hs | rw [World.size_drew] at hs)))
    all_goals (replace kp0 := kp0.keep hx)
    all_goals (replace kW0 := kW0.keep hx)
    all_goals (replace kG0 := kG0.keep hx)
    all_goals (replace oM0 := Lib.hid (oM0.out.keep hx))
    all_goals (replace oZ0 := Lib.hid (oZ0.out.keep hx))
    all_goals (have kZ0 := keepAt hb (C2.here w12_ (.int .i64 rp0) (.slice Za0 l0.length Zc0) 26))
    all_goals (replace hL := chain (B := w.heap.size) (a := w) hL (by first | exact Nat.le_refl _ | simp) hx)
    all_goals (replace hBW := chain (B := w3_.heap.size) (a := w3_) hBW (Nat.le_refl _) hx)
    all_goals (replace hc : H3 ≤ w13_.heap.size := by omega)
    all_goals (clear hx hs hb)
    all_goals (clear oZ0)
    all_goals (go_wp2_with fail)
    all_goals (have hqb0 : ¬ (1 + ((sumLen l0 l0.length : Nat) : Int)) < 0 := by have := HLEN0.out.2.1; have := HLEN0.out.1; omega)
    all_goals (refine (heldNetwork_any rp0 _ l0 (1) _ (oM0.out.keep (by go_grown)).reads HLEN0.out.2.2 (by omega) (by have := HLEN0.out.2.1; have := HLEN0.out.1; omega)).mono ?_)
    all_goals (rintro e w14_ ⟨rfl, hb⟩)
    all_goals (have hx := chain (B := w13_.heap.size) (a := w13_) (by go_grown) (Nat.le_refl _) hb)
    all_goals (have hs := hb.size)
    all_goals ((repeat (first | rw [World.size_alloc] at hs | rw [World.size_drew] at hs)))
    all_goals (replace kp0 := kp0.keep hx)
    all_goals (replace kW0 := kW0.keep hx)
    all_goals (replace kG0 := kG0.keep hx)
    all_goals (replace kZ0 := kZ0.keep hx)
    all_goals (replace oM0 := Lib.hid (oM0.out.keep hx))
    all_goals (replace hL := chain (B := w.heap.size) (a := w) hL (by first | exact Nat.le_refl _ | simp) hx)
    all_goals (replace hBW := chain (B := w3_.heap.size) (a := w3_) hBW (Nat.le_refl _) hx)
    all_goals (replace hc : H3 ≤ w14_.heap.size := by omega)
    all_goals (clear hx hs hb)
    all_goals (go_wp2_with fail)
    all_goals (go_ret)
    all_goals (exact ⟨rfl, by first | assumption | go_grown⟩)

end Go.Proofs.Ytnmjdphibphpnaa
