/- The walk of FnExactOneBehind. -/
import Derived.Test.YtnmjdphibphpnaaOneBehind
import Derived.Test.YtnmjdphibphpnaaLk2
namespace Go.Proofs.Ytnmjdphibphpnaa
open Go.RowKit
set_option linter.unusedVariables false

set_option maxRecDepth 100000 in
set_option maxHeartbeats 8000000 in
theorem walkFnExactOneBehind (p0 : Int) (va0 : Value) (xss0 : List (List Int)) (p1 : Int) (va1 : Value) (xss1 : List (List Int)) (w : World) (ha0 : Reads2 w va0 xss0) (ha1 : Reads2 w va1 xss1) :
    Calls Try.prog 5 #[.agg #[.int .i64 p0, va0], .agg #[.int .i64 p1, va1]] w fun e w' => e = .returned (.bool true) ∧ Below w.heap.size w w' := by
  have HR0 := Lib.hid ha0
  have HR1 := Lib.hid ha1
  obtain ⟨a0, ca0, rfl, _, _⟩ := ha0
  obtain ⟨a1, ca1, rfl, _, _⟩ := ha1
  have kp0 : C2 ((w.alloc (.cells #[.int .i64 p0, .slice a0 xss0.length ca0] 24)).alloc (.cells #[.int .i64 p1, .slice a1 xss1.length ca1] 24)) (w.heap.size) (.int .i64 p0) (.slice a0 xss0.length ca0) := by simpa using (C2.here w (.int .i64 p0) (.slice a0 xss0.length ca0) 24).alloc (.cells #[.int .i64 p1, .slice a1 xss1.length ca1] 24)
  have kp1 : C2 ((w.alloc (.cells #[.int .i64 p0, .slice a0 xss0.length ca0] 24)).alloc (.cells #[.int .i64 p1, .slice a1 xss1.length ca1] 24)) (w.heap.size + 1) (.int .i64 p1) (.slice a1 xss1.length ca1) := by simpa using C2.here (w.alloc (.cells #[.int .i64 p0, .slice a0 xss0.length ca0] 24)) (.int .i64 p1) (.slice a1 xss1.length ca1) 24
  have hL0 : Below w.heap.size w ((w.alloc (.cells #[.int .i64 p0, .slice a0 xss0.length ca0] 24)).alloc (.cells #[.int .i64 p1, .slice a1 xss1.length ca1] 24)) := ((Below.refl _ _).alloc (by simp) (.cells #[.int .i64 p0, .slice a0 xss0.length ca0] 24)).alloc (by simp) (.cells #[.int .i64 p1, .slice a1 xss1.length ca1] 24)
  obtain ⟨z0, hz0⟩ : ∃ z, szZ2 1048576 xss0 = z := ⟨_, rfl⟩
  have HZ0 := Lib.hid hz0
  have ZB0 : Hid ((0 : Int) ≤ 1048576 ∧ (1048576 : Int) ≤ 1048576) := by unfold Hid; omega
  by_cases hzn0 : z0 = -1
  · subst hzn0
    clear hz0
    have hL := hL0
    clear hL0
    go_enter Try.func5, Try.ntmps5
    go_wp2_with fail
    refine (szNetwork_any _ _ xss0 1048576 _ (HR0.out.keep (by go_grown)) ZB0.out.1 ZB0.out.2 HZ0.out).mono ?_
    rintro e we0 ⟨rfl, hb⟩
    replace hL := chain (B := w.heap.size) (a := w) hL (Nat.le_refl _) hb
    replace kp0 := keepAt hb kp0
    replace kp1 := keepAt hb kp1
    clear hb
    go_wp2_with fail
    go_ret
    exact ⟨rfl, hL⟩
  · obtain ⟨hn0, hlr0, hsum0, hz00, hze0⟩ := purseG hz0 hzn0 (by omega)
    have HN0 := Lib.hid hn0
    have HLR0 := Lib.hid hlr0
    have HSUM0 := Lib.hid hsum0
    have HZE0 := Lib.hid hze0
    have hzneg0 : ¬ z0 < 0 := by omega
    have hzle0 : z0 ≤ 1048576 := by omega
    clear hz0 hlr0 hn0 hzn0 hsum0 hze0
    obtain ⟨z1, hz1⟩ : ∃ z, szZ2 z0 xss1 = z := ⟨_, rfl⟩
    have HZ1 := Lib.hid hz1
    have ZB1 : Hid ((0 : Int) ≤ z0 ∧ (z0 : Int) ≤ 1048576) := by unfold Hid; omega
    by_cases hzn1 : z1 = -1
    · subst hzn1
      clear hz1
      have hL := hL0
      clear hL0
      go_enter Try.func5, Try.ntmps5
      go_wp2_with fail
      refine (szNetwork_any _ _ xss0 1048576 _ (HR0.out.keep (by go_grown)) ZB0.out.1 ZB0.out.2 HZ0.out).mono ?_
      rintro e we0 ⟨rfl, hb⟩
      replace hL := chain (B := w.heap.size) (a := w) hL (Nat.le_refl _) hb
      replace kp0 := keepAt hb kp0
      replace kp1 := keepAt hb kp1
      clear hb
      go_wp2_with fail
      refine (szNetwork_any _ _ xss1 z0 _ (HR1.out.keep (by go_grown)) ZB1.out.1 ZB1.out.2 HZ1.out).mono ?_
      rintro e we1 ⟨rfl, hb⟩
      replace hL := chain (B := w.heap.size) (a := w) hL (Nat.le_refl _) hb
      replace kp0 := keepAt hb kp0
      replace kp1 := keepAt hb kp1
      clear hb
      go_wp2_with fail
      go_ret
      exact ⟨rfl, hL⟩
    · obtain ⟨hn1, hlr1, hsum1, hz01, hze1⟩ := purseG hz1 hzn1 (by omega)
      have HN1 := Lib.hid hn1
      have HLR1 := Lib.hid hlr1
      have HSUM1 := Lib.hid hsum1
      have HZE1 := Lib.hid hze1
      have hzneg1 : ¬ z1 < 0 := by omega
      have hzle1 : z1 ≤ 1048576 := by omega
      clear hz1 hlr1 hn1 hzn1 hsum1 hze1
      obtain ⟨rp0, hr_rp0⟩ : ∃ x : Int, resOneBehind_0p p0 xss0 p1 xss1 = x := ⟨_, rfl⟩
      obtain ⟨l0, hr_l0⟩ : ∃ x : List (List Int), resOneBehind_0 p0 xss0 p1 xss1 = x := ⟨_, rfl⟩
      have H4_0 : Hid (∀ c ∈ l0, c.length = 4) := by rw [← hr_l0]; exact fourOneBehind_0 p0 xss0 p1 xss1
      have HLEN0 : Hid (l0.length ≤ 100000 ∧ l0.length + sumLen l0 l0.length ≤ 1000000 ∧ ∀ i, i < l0.length → (l0.getD i []).length ≤ 1048576) := by rw [← hr_l0]; exact lenOneBehind_0 p0 xss0 p1 xss1
      obtain ⟨c1, hr_c1⟩ : ∃ x : Int, resOneBehind_1 p0 xss0 p1 xss1 = x := ⟨_, rfl⟩
      have D1 : Hid (∀ (u_0 u_1 : Value) (w : World), Reads2 w u_0 xss0 → Reads2 w u_1 xss1 → Calls Try.prog 22 #[.agg #[.int .i64 p0, u_0], .agg #[.int .i64 p1, u_1]] w fun e w' => ∃ sa0 sc0, e = .returned (.tuple #[.agg #[.int .i64 rp0, .slice sa0 l0.length sc0], .int .i64 c1]) ∧ Own2 w' w.heap.size w'.heap.size (.slice sa0 l0.length sc0) l0 ∧ Below w.heap.size w w') := fun u_0 u_1 w h0 h1 => by subst hr_rp0 hr_l0 hr_c1; exact iOneBehind_any p0 u_0 xss0 p1 u_1 xss1 w h0 h1
      have D2 : Hid (∀ (u_0 u_1 : Value) (w : World), Reads2 w u_0 xss0 → Reads2 w u_1 xss1 → Calls Try.prog 21 #[.agg #[.int .i64 p0, u_0], .agg #[.int .i64 p1, u_1]] w fun e w' => ∃ sa0 sc0, e = .returned (.tuple #[.agg #[.int .i64 rp0, .slice sa0 l0.length sc0], .int .i64 c1]) ∧ Reads2 w' (.slice sa0 l0.length sc0) l0 ∧ Below w.heap.size w w') := fun u_0 u_1 w h0 h1 => by subst hr_rp0 hr_l0 hr_c1; exact sOneBehind_any p0 u_0 xss0 p1 u_1 xss1 w h0 h1
      clear hr_rp0 hr_l0 hr_c1
      have hL := hL0
      clear hL0
      obtain ⟨H0, hH0, hc⟩ : ∃ H, w.heap.size + 2 ≤ H ∧ H ≤ w.heap.size + 2 := ⟨_, Nat.le_refl _, Nat.le_refl _⟩
      have hHU0 := hc
      go_enter Try.func5, Try.ntmps5
      go_wp2_with fail
      refine (szNetwork_any _ _ xss0 1048576 _ (HR0.out.keep (by go_grown)) ZB0.out.1 ZB0.out.2 HZ0.out).mono ?_
      rintro e w1_ ⟨rfl, hb⟩
      have hx := chain (B := ((w.alloc (.cells #[.int .i64 p0, .slice a0 xss0.length ca0] 24)).alloc (.cells #[.int .i64 p1, .slice a1 xss1.length ca1] 24)).heap.size) (a := ((w.alloc (.cells #[.int .i64 p0, .slice a0 xss0.length ca0] 24)).alloc (.cells #[.int .i64 p1, .slice a1 xss1.length ca1] 24))) (by go_grown) (Nat.le_refl _) hb
      have hs := hb.size
      (repeat (first | rw [World.size_alloc] at hs | rw [World.size_drew] at hs))
      replace kp0 := kp0.keep hx
      replace kp1 := kp1.keep hx
      replace hL := chain (B := w.heap.size) (a := w) hL (by first | exact Nat.le_refl _ | simp) hx
      replace hc : H0 ≤ w1_.heap.size := by omega
      clear hx hs hb
      go_wp2_with fail
      refine (szNetwork_any _ _ xss1 z0 _ (HR1.out.keep (by go_grown)) ZB1.out.1 ZB1.out.2 HZ1.out).mono ?_
      rintro e w2_ ⟨rfl, hb⟩
      have hx := chain (B := w1_.heap.size) (a := w1_) (by go_grown) (Nat.le_refl _) hb
      have hs := hb.size
      (repeat (first | rw [World.size_alloc] at hs | rw [World.size_drew] at hs))
      replace kp0 := kp0.keep hx
      replace kp1 := kp1.keep hx
      replace hL := chain (B := w.heap.size) (a := w) hL (by first | exact Nat.le_refl _ | simp) hx
      replace hc : H0 ≤ w2_.heap.size := by omega
      clear hx hs hb
      have hst_kp0 := kp0.2.2.2.2
      have hst_kp1 := kp1.2.2.2.2
      go_upto_region 8 with fail
      go_cut [6, 7] (fun sb sc wx => ∃ (g : Nat) (Wa0 : Option Addr) (Wc0 : Nat), sb = .pointer (some ⟨g, 0, none⟩) ∧ sc = .int .i64 c1 ∧ Below w.heap.size w wx ∧ C2 wx g (.int .i64 rp0) (.slice Wa0 l0.length Wc0) ∧ C2 wx (w.heap.size) (.int .i64 p0) (.slice a0 xss0.length ca0) ∧ C2 wx (w.heap.size + 1) (.int .i64 p1) (.slice a1 xss1.length ca1) ∧ Hid (Reads2 wx (.slice Wa0 l0.length Wc0) l0))
      case first =>
        go_region_held3 (fun w' => C2 w' (w.heap.size) (.int .i64 p0) (.slice a0 xss0.length ca0) ∧ C2 w' (w.heap.size + 1) (.int .i64 p1) (.slice a1 xss1.length ca1))
          ((first | (refine ⟨?_, ?_⟩ <;> ((repeat' (first | (with_reducible assumption) | (with_reducible refine C2.drewX ?_) | (with_reducible refine C2.alloc ?_ _) | (with_reducible refine C2.set ?_ _ _ _ (by omega)))); done)) | ((repeat' (first | (with_reducible assumption) | (with_reducible refine C2.drewX ?_) | (with_reducible refine C2.alloc ?_ _) | (with_reducible refine C2.set ?_ _ _ _ (by omega)))); done)))
          (first | (go_at_call 14; (with_reducible refine (toNetwork_x p0 _ xss0 _ (HR0.out.keep (by go_grown)) HN0.out HLR0.out).mono ?_); rintro e wa ⟨na0, nc0, B0_, C0_, rfl, on, hB, hC, hb⟩; have hz := hb.size; (repeat (first | rw [World.size_alloc] at hz | rw [World.size_drew] at hz)); have hL := chain (B := w.heap.size) (a := w) (by go_grown) (Nat.le_refl _) hb; replace kp0 := keepAt hb (show C2 _ (w.heap.size) (.int .i64 p0) (.slice a0 xss0.length ca0) from by (repeat' (first | (with_reducible assumption) | (with_reducible refine C2.drewX ?_) | (with_reducible refine C2.alloc ?_ _)))); replace kp1 := keepAt hb (show C2 _ (w.heap.size + 1) (.int .i64 p1) (.slice a1 xss1.length ca1) from by (repeat' (first | (with_reducible assumption) | (with_reducible refine C2.drewX ?_) | (with_reducible refine C2.alloc ?_ _)))); (try replace kn := keepAt hb (show C2 _ _ (.int .i64 0) (.slice none 0 0) from by first | exact kn | exact kn.alloc _)); (try (first | (have kn := keepAt hb (C2.here _ (.int .i64 0) (.slice none 0 0) 26)) | (have kn := keepAt hb (C2.hereD _ (.int .i64 0) (.slice none 0 0) 26)))); (try (repeat (first | rw [World.size_alloc] at kn | rw [World.size_drew] at kn))); have RA0 := Lib.hid on.reads; clear hb on hB hC) | (go_at_call 14; (with_reducible refine (toNetwork_x p1 _ xss1 _ (HR1.out.keep (by go_grown)) HN1.out HLR1.out).mono ?_); rintro e wb ⟨na1, nc1, B1_, C1_, rfl, on, hB, hC, hb⟩; have hz := hb.size; (repeat (first | rw [World.size_alloc] at hz | rw [World.size_drew] at hz)); have hL := chain (B := w.heap.size) (a := w) (by go_grown) (Nat.le_refl _) hb; replace kp0 := keepAt hb (show C2 _ (w.heap.size) (.int .i64 p0) (.slice a0 xss0.length ca0) from by (repeat' (first | (with_reducible assumption) | (with_reducible refine C2.drewX ?_) | (with_reducible refine C2.alloc ?_ _)))); replace kp1 := keepAt hb (show C2 _ (w.heap.size + 1) (.int .i64 p1) (.slice a1 xss1.length ca1) from by (repeat' (first | (with_reducible assumption) | (with_reducible refine C2.drewX ?_) | (with_reducible refine C2.alloc ?_ _)))); (try replace kn := keepAt hb (show C2 _ _ (.int .i64 0) (.slice none 0 0) from by first | exact kn | exact kn.alloc _)); (try (first | (have kn := keepAt hb (C2.here _ (.int .i64 0) (.slice none 0 0) 26)) | (have kn := keepAt hb (C2.hereD _ (.int .i64 0) (.slice none 0 0) 26)))); (try (repeat (first | rw [World.size_alloc] at kn | rw [World.size_drew] at kn))); replace RA0 := Lib.hid (RA0.out.keep (chain (B := wa.heap.size) (a := wa) (by go_grown) (Nat.le_refl _) hb)); have RA1 := Lib.hid on.reads; clear hb on hB hC) | (go_at_call 21; (with_reducible refine (D2.out _ _ _ (RA0.out.keep (by go_grown)) (RA1.out.keep (by go_grown))).mono ?_); rintro e wd ⟨Wa0, Wc0, rfl, of0, hb⟩; have hz := hb.size; (repeat (first | rw [World.size_alloc] at hz | rw [World.size_drew] at hz)); have hL := chain (B := w.heap.size) (a := w) (by go_grown) (Nat.le_refl _) hb; replace kp0 := keepAt hb (show C2 _ (w.heap.size) (.int .i64 p0) (.slice a0 xss0.length ca0) from by (repeat' (first | (with_reducible assumption) | (with_reducible refine C2.drewX ?_) | (with_reducible refine C2.alloc ?_ _)))); replace kp1 := keepAt hb (show C2 _ (w.heap.size + 1) (.int .i64 p1) (.slice a1 xss1.length ca1) from by (repeat' (first | (with_reducible assumption) | (with_reducible refine C2.drewX ?_) | (with_reducible refine C2.alloc ?_ _)))); (try replace kn := keepAt hb (show C2 _ _ (.int .i64 0) (.slice none 0 0) from by first | exact kn | exact kn.alloc _)); (try (first | (have kn := keepAt hb (C2.here _ (.int .i64 0) (.slice none 0 0) 26)) | (have kn := keepAt hb (C2.hereD _ (.int .i64 0) (.slice none 0 0) 26)))); (try (repeat (first | rw [World.size_alloc] at kn | rw [World.size_drew] at kn))); have RW := Lib.hid of0; clear hb of0))
        all_goals go_wp2_with fail
        all_goals go_meet
        all_goals (first | exact ⟨_, _, _, rfl, rfl, by go_grown, C2.here _ _ _ _, kp0.alloc _, kp1.alloc _, Lib.hid (RW.out.keep (by go_grown))⟩ | exact ⟨_, _, _, rfl, rfl, by go_grown, C2.fill kn _ _, (kp0.set _ _ _ (by omega)).set _ _ _ (by omega), (kp1.set _ _ _ (by omega)).set _ _ _ (by omega), Lib.hid (Reads2.setBox RW.out H4_0.out kn _ _)⟩)
      case rest =>
      clear hL kp0 kp1 hst_kp0 hst_kp1
      obtain ⟨gW, Wa0, Wc0, rfl, rfl, hL, kW0, kp0, kp1, HW_⟩ := hcut
      have RW0 := HW_; clear HW_
      have hgW := kW0.2.2.2.2
      obtain ⟨wW, rfl⟩ : ∃ x : World, x = wc := ⟨_, rfl⟩
      have HW0 := RW0; clear RW0
      have hsz0 := hL.size; have hks0 := kp1.2.2.2.2
      replace hc : H0 ≤ wW.heap.size := by omega
      clear hsz0 hks0
      have hBW : Below wW.heap.size wW wW := Below.refl _ _
      obtain ⟨H1, hH1, hcn⟩ : ∃ H, wW.heap.size ≤ H ∧ H ≤ wW.heap.size := ⟨_, Nat.le_refl _, Nat.le_refl _⟩
      have hHH1 : H0 ≤ H1 := by omega
      have hHU1 := hcn
      clear hc
      have hc := hcn
      clear hcn
      have hgW1 : gW < H1 := by omega
      go_wp2_with fail
      refine (toNetwork_x _ _ xss0 _ (HR0.out.keep (by go_grown)) HN0.out HLR0.out).mono ?_
      rintro e w3_ ⟨xa0, xc0, xB0, xC0, rfl, on, hB, ⟨hBC, hC⟩, hb⟩
      have hx := chain (B := wW.heap.size) (a := wW) (by go_grown) (Nat.le_refl _) hb
      have hs := hb.size
      (repeat (first | rw [World.size_alloc] at hs | rw [World.size_drew] at hs))
      replace kp0 := kp0.keep hx
      replace kp1 := kp1.keep hx
      replace kW0 := kW0.keep hx
      replace hL := chain (B := w.heap.size) (a := w) hL (by first | exact Nat.le_refl _ | simp) hx
      replace hBW := chain (B := wW.heap.size) (a := wW) hBW (Nat.le_refl _) hx
      (repeat (first | rw [World.size_alloc] at hB | rw [World.size_drew] at hB))
      have hLO0 : H1 ≤ xB0 := by omega
      have hHI0 := hC
      obtain ⟨H2, hH2, hcn⟩ : ∃ H, w3_.heap.size + 1 ≤ H ∧ H ≤ w3_.heap.size + 1 := ⟨_, Nat.le_refl _, Nat.le_refl _⟩
      have hHH2 : H1 ≤ H2 := by omega
      have hHU2 := hcn
      clear hc
      have hc := hcn
      clear hcn
      clear hx hs hb hB hC
      have ox0 := Lib.hid on
      clear on
      have hBC0 := hBC
      clear hBC
      go_wp2_with fail
      refine (toNetwork_x _ _ xss1 _ (HR1.out.keep (by go_grown)) HN1.out HLR1.out).mono ?_
      rintro e w4_ ⟨xa1, xc1, xB1, xC1, rfl, on, hB, ⟨hBC, hC⟩, hb⟩
      have hx := chain (B := w3_.heap.size) (a := w3_) (by go_grown) (Nat.le_refl _) hb
      have hs := hb.size
      (repeat (first | rw [World.size_alloc] at hs | rw [World.size_drew] at hs))
      replace kp0 := kp0.keep hx
      replace kp1 := kp1.keep hx
      replace kW0 := kW0.keep hx
      replace ox0 := Lib.hid (ox0.out.keep hx)
      have kx0 := keepAt hb (C2.here w3_ (.int .i64 p0) (.slice xa0 xss0.length xc0) 26)
      replace hL := chain (B := w.heap.size) (a := w) hL (by first | exact Nat.le_refl _ | simp) hx
      replace hBW := chain (B := wW.heap.size) (a := wW) hBW (Nat.le_refl _) hx
      (repeat (first | rw [World.size_alloc] at hB | rw [World.size_drew] at hB))
      have hLO1 : H2 ≤ xB1 := by omega
      have hHI1 := hC
      obtain ⟨H3, hH3, hcn⟩ : ∃ H, w4_.heap.size + 1 ≤ H ∧ H ≤ w4_.heap.size + 1 := ⟨_, Nat.le_refl _, Nat.le_refl _⟩
      have hHH3 : H2 ≤ H3 := by omega
      have hHU3 := hcn
      clear hc
      have hc := hcn
      clear hcn
      clear hx hs hb hB hC
      have ox1 := Lib.hid on
      clear on
      have hBC1 := hBC
      clear hBC
      go_wp2_with fail
      refine (D1.out _ _ _ (ox0.out.keep (by first | go_grown | exact (Below.refl _ _).alloc (Nat.le_refl _) _)).reads (ox1.out.keep (by first | go_grown | exact (Below.refl _ _).alloc (Nat.le_refl _) _)).reads).mono ?_
      rintro e w5_ ⟨Ga0, Gc0, rfl, of0, hb⟩
      have hx := chain (B := w4_.heap.size) (a := w4_) (by go_grown) (Nat.le_refl _) hb
      have hs := hb.size
      (repeat (first | rw [World.size_alloc] at hs | rw [World.size_drew] at hs))
      replace kp0 := kp0.keep hx
      replace kp1 := kp1.keep hx
      replace kW0 := kW0.keep hx
      replace kx0 := kx0.keep hx
      replace ox0 := Lib.hid (ox0.out.keep hx)
      replace ox1 := Lib.hid (ox1.out.keep hx)
      have kx1 := keepAt hb (C2.here w4_ (.int .i64 p1) (.slice xa1 xss1.length xc1) 26)
      replace hL := chain (B := w.heap.size) (a := w) hL (by first | exact Nat.le_refl _ | simp) hx
      replace hBW := chain (B := wW.heap.size) (a := wW) hBW (Nat.le_refl _) hx
      (repeat (first | rw [World.size_alloc] at of0 | rw [World.size_drew] at of0))
      obtain ⟨H4, hH4, hcn⟩ : ∃ H, w5_.heap.size ≤ H ∧ H ≤ w5_.heap.size := ⟨_, Nat.le_refl _, Nat.le_refl _⟩
      have hHH4 : H3 ≤ H4 := by omega
      have hco := hc
      have hHU4 := hcn
      clear hc
      have hc := hcn
      clear hcn
      have oG0 := Lib.hid (of0.mono (B' := H3) (C' := H4) (by omega) (by omega))
      clear of0
      clear hx hs hb hco
      go_wp2_with fail
      refine (eqNetwork_same _ _ _ l0 _ (oG0.out.keep (by go_grown)).reads (HW0.out.keep (by go_grown))).mono ?_
      rintro e w6_ ⟨rfl, hb⟩
      have hx := chain (B := w5_.heap.size) (a := w5_) (by go_grown) (Nat.le_refl _) hb
      have hs := hb.size
      (repeat (first | rw [World.size_alloc] at hs | rw [World.size_drew] at hs))
      replace kp0 := kp0.keep hx
      replace kp1 := kp1.keep hx
      replace kW0 := kW0.keep hx
      replace kx0 := kx0.keep hx
      replace kx1 := kx1.keep hx
      replace ox0 := Lib.hid (ox0.out.keep hx)
      replace ox1 := Lib.hid (ox1.out.keep hx)
      replace oG0 := Lib.hid (oG0.out.keep hx)
      have kG0 := keepAt hb (C2.here w5_ (.int .i64 rp0) (.slice Ga0 l0.length Gc0) 26)
      replace hL := chain (B := w.heap.size) (a := w) hL (by first | exact Nat.le_refl _ | simp) hx
      replace hBW := chain (B := wW.heap.size) (a := wW) hBW (Nat.le_refl _) hx
      replace hc : H4 ≤ w6_.heap.size := by omega
      clear hx hs hb
      go_wp2_with fail
      have RXd := Lib.hid ox0.out.reads
      go_upto_region 14 with fail
      go_region_held3 (fun w' => C2 w' w3_.heap.size (.int .i64 p0) (.slice xa0 xss0.length xc0) ∧ C2 w' (w.heap.size) (.int .i64 p0) (.slice a0 xss0.length ca0)) ((first | (refine ⟨?_, ?_⟩ <;> ((repeat' (first | (with_reducible assumption) | (with_reducible refine C2.drewX ?_) | (with_reducible refine C2.alloc ?_ _) | (with_reducible refine C2.set ?_ _ _ _ (by omega)))); done)) | ((repeat' (first | (with_reducible assumption) | (with_reducible refine C2.drewX ?_) | (with_reducible refine C2.alloc ?_ _) | (with_reducible refine C2.set ?_ _ _ _ (by omega)))); done))) (first | (go_at_call 14; (with_reducible refine (toNetwork_any _ _ xss0 _ (HR0.out.keep (by go_grown)) HN0.out HLR0.out).mono ?_); rintro e wq0 ⟨ya, yc, rfl, oy, hb⟩; have hs := hb.size; (repeat (first | rw [World.size_alloc] at hs | rw [World.size_drew] at hs)); have hL := chain (B := w.heap.size) (a := w) (by go_grown) (Nat.le_refl _) hb; have hBW := chain (B := wW.heap.size) (a := wW) (by go_grown) (Nat.le_refl _) hb; replace kp0 := keepAt hb (show C2 _ (w.heap.size) (.int .i64 p0) (.slice a0 xss0.length ca0) from by (repeat' (first | (with_reducible assumption) | (with_reducible refine C2.drewX ?_) | (with_reducible refine C2.alloc ?_ _)))); replace kp1 := keepAt hb (show C2 _ (w.heap.size + 1) (.int .i64 p1) (.slice a1 xss1.length ca1) from by (repeat' (first | (with_reducible assumption) | (with_reducible refine C2.drewX ?_) | (with_reducible refine C2.alloc ?_ _)))); replace kW0 := keepAt hb (show C2 _ gW (.int .i64 rp0) (.slice Wa0 l0.length Wc0) from by (repeat' (first | (with_reducible assumption) | (with_reducible refine C2.drewX ?_) | (with_reducible refine C2.alloc ?_ _)))); replace kx0 := keepAt hb (show C2 _ w3_.heap.size (.int .i64 p0) (.slice xa0 xss0.length xc0) from by (repeat' (first | (with_reducible assumption) | (with_reducible refine C2.drewX ?_) | (with_reducible refine C2.alloc ?_ _)))); replace kx1 := keepAt hb (show C2 _ w4_.heap.size (.int .i64 p1) (.slice xa1 xss1.length xc1) from by (repeat' (first | (with_reducible assumption) | (with_reducible refine C2.drewX ?_) | (with_reducible refine C2.alloc ?_ _)))); replace kG0 := keepAt hb (show C2 _ w5_.heap.size (.int .i64 rp0) (.slice Ga0 l0.length Gc0) from by (repeat' (first | (with_reducible assumption) | (with_reducible refine C2.drewX ?_) | (with_reducible refine C2.alloc ?_ _)))); replace ox0 := Lib.hid (own2At hb ox0.out); replace ox1 := Lib.hid (own2At hb ox1.out); replace oG0 := Lib.hid (own2At hb oG0.out); have RY := Lib.hid oy.reads; replace RXd := Lib.hid (reads2At hb RXd.out); clear hb oy) | (go_at_call 16; (with_reducible refine (eqNetwork_same _ _ _ xss0 _ RXd.out RY.out).mono ?_); rintro e wd0 ⟨rfl, hb⟩; have hs2 := hb.size; (repeat (first | rw [World.size_alloc] at hs2 | rw [World.size_drew] at hs2)); have hL := chain (B := w.heap.size) (a := w) (by go_grown) (Nat.le_refl _) hb; have hBW := chain (B := wW.heap.size) (a := wW) (by go_grown) (Nat.le_refl _) hb; replace kp0 := keepAt hb (show C2 _ (w.heap.size) (.int .i64 p0) (.slice a0 xss0.length ca0) from by (repeat' (first | (with_reducible assumption) | (with_reducible refine C2.drewX ?_) | (with_reducible refine C2.alloc ?_ _)))); replace kp1 := keepAt hb (show C2 _ (w.heap.size + 1) (.int .i64 p1) (.slice a1 xss1.length ca1) from by (repeat' (first | (with_reducible assumption) | (with_reducible refine C2.drewX ?_) | (with_reducible refine C2.alloc ?_ _)))); replace kW0 := keepAt hb (show C2 _ gW (.int .i64 rp0) (.slice Wa0 l0.length Wc0) from by (repeat' (first | (with_reducible assumption) | (with_reducible refine C2.drewX ?_) | (with_reducible refine C2.alloc ?_ _)))); replace kx0 := keepAt hb (show C2 _ w3_.heap.size (.int .i64 p0) (.slice xa0 xss0.length xc0) from by (repeat' (first | (with_reducible assumption) | (with_reducible refine C2.drewX ?_) | (with_reducible refine C2.alloc ?_ _)))); replace kx1 := keepAt hb (show C2 _ w4_.heap.size (.int .i64 p1) (.slice xa1 xss1.length xc1) from by (repeat' (first | (with_reducible assumption) | (with_reducible refine C2.drewX ?_) | (with_reducible refine C2.alloc ?_ _)))); replace kG0 := keepAt hb (show C2 _ w5_.heap.size (.int .i64 rp0) (.slice Ga0 l0.length Gc0) from by (repeat' (first | (with_reducible assumption) | (with_reducible refine C2.drewX ?_) | (with_reducible refine C2.alloc ?_ _)))); replace ox0 := Lib.hid (own2At hb ox0.out); replace ox1 := Lib.hid (own2At hb ox1.out); replace oG0 := Lib.hid (own2At hb oG0.out); clear hb RXd RY))
      have hcn : H4 ≤ wd0.heap.size := by omega
      clear hc hs hs2
      have hc := hcn
      clear hcn
      go_wp2_with fail
      have RXd := Lib.hid ox1.out.reads
      go_upto_region 16 with fail
      go_region_held3 (fun w' => C2 w' w4_.heap.size (.int .i64 p1) (.slice xa1 xss1.length xc1) ∧ C2 w' (w.heap.size + 1) (.int .i64 p1) (.slice a1 xss1.length ca1)) ((first | (refine ⟨?_, ?_⟩ <;> ((repeat' (first | (with_reducible assumption) | (with_reducible refine C2.drewX ?_) | (with_reducible refine C2.alloc ?_ _) | (with_reducible refine C2.set ?_ _ _ _ (by omega)))); done)) | ((repeat' (first | (with_reducible assumption) | (with_reducible refine C2.drewX ?_) | (with_reducible refine C2.alloc ?_ _) | (with_reducible refine C2.set ?_ _ _ _ (by omega)))); done))) (first | (go_at_call 14; (with_reducible refine (toNetwork_any _ _ xss1 _ (HR1.out.keep (by go_grown)) HN1.out HLR1.out).mono ?_); rintro e wq1 ⟨ya, yc, rfl, oy, hb⟩; have hs := hb.size; (repeat (first | rw [World.size_alloc] at hs | rw [World.size_drew] at hs)); have hL := chain (B := w.heap.size) (a := w) (by go_grown) (Nat.le_refl _) hb; have hBW := chain (B := wW.heap.size) (a := wW) (by go_grown) (Nat.le_refl _) hb; replace kp0 := keepAt hb (show C2 _ (w.heap.size) (.int .i64 p0) (.slice a0 xss0.length ca0) from by (repeat' (first | (with_reducible assumption) | (with_reducible refine C2.drewX ?_) | (with_reducible refine C2.alloc ?_ _)))); replace kp1 := keepAt hb (show C2 _ (w.heap.size + 1) (.int .i64 p1) (.slice a1 xss1.length ca1) from by (repeat' (first | (with_reducible assumption) | (with_reducible refine C2.drewX ?_) | (with_reducible refine C2.alloc ?_ _)))); replace kW0 := keepAt hb (show C2 _ gW (.int .i64 rp0) (.slice Wa0 l0.length Wc0) from by (repeat' (first | (with_reducible assumption) | (with_reducible refine C2.drewX ?_) | (with_reducible refine C2.alloc ?_ _)))); replace kx0 := keepAt hb (show C2 _ w3_.heap.size (.int .i64 p0) (.slice xa0 xss0.length xc0) from by (repeat' (first | (with_reducible assumption) | (with_reducible refine C2.drewX ?_) | (with_reducible refine C2.alloc ?_ _)))); replace kx1 := keepAt hb (show C2 _ w4_.heap.size (.int .i64 p1) (.slice xa1 xss1.length xc1) from by (repeat' (first | (with_reducible assumption) | (with_reducible refine C2.drewX ?_) | (with_reducible refine C2.alloc ?_ _)))); replace kG0 := keepAt hb (show C2 _ w5_.heap.size (.int .i64 rp0) (.slice Ga0 l0.length Gc0) from by (repeat' (first | (with_reducible assumption) | (with_reducible refine C2.drewX ?_) | (with_reducible refine C2.alloc ?_ _)))); replace ox0 := Lib.hid (own2At hb ox0.out); replace ox1 := Lib.hid (own2At hb ox1.out); replace oG0 := Lib.hid (own2At hb oG0.out); have RY := Lib.hid oy.reads; replace RXd := Lib.hid (reads2At hb RXd.out); clear hb oy) | (go_at_call 16; (with_reducible refine (eqNetwork_same _ _ _ xss1 _ RXd.out RY.out).mono ?_); rintro e wd1 ⟨rfl, hb⟩; have hs2 := hb.size; (repeat (first | rw [World.size_alloc] at hs2 | rw [World.size_drew] at hs2)); have hL := chain (B := w.heap.size) (a := w) (by go_grown) (Nat.le_refl _) hb; have hBW := chain (B := wW.heap.size) (a := wW) (by go_grown) (Nat.le_refl _) hb; replace kp0 := keepAt hb (show C2 _ (w.heap.size) (.int .i64 p0) (.slice a0 xss0.length ca0) from by (repeat' (first | (with_reducible assumption) | (with_reducible refine C2.drewX ?_) | (with_reducible refine C2.alloc ?_ _)))); replace kp1 := keepAt hb (show C2 _ (w.heap.size + 1) (.int .i64 p1) (.slice a1 xss1.length ca1) from by (repeat' (first | (with_reducible assumption) | (with_reducible refine C2.drewX ?_) | (with_reducible refine C2.alloc ?_ _)))); replace kW0 := keepAt hb (show C2 _ gW (.int .i64 rp0) (.slice Wa0 l0.length Wc0) from by (repeat' (first | (with_reducible assumption) | (with_reducible refine C2.drewX ?_) | (with_reducible refine C2.alloc ?_ _)))); replace kx0 := keepAt hb (show C2 _ w3_.heap.size (.int .i64 p0) (.slice xa0 xss0.length xc0) from by (repeat' (first | (with_reducible assumption) | (with_reducible refine C2.drewX ?_) | (with_reducible refine C2.alloc ?_ _)))); replace kx1 := keepAt hb (show C2 _ w4_.heap.size (.int .i64 p1) (.slice xa1 xss1.length xc1) from by (repeat' (first | (with_reducible assumption) | (with_reducible refine C2.drewX ?_) | (with_reducible refine C2.alloc ?_ _)))); replace kG0 := keepAt hb (show C2 _ w5_.heap.size (.int .i64 rp0) (.slice Ga0 l0.length Gc0) from by (repeat' (first | (with_reducible assumption) | (with_reducible refine C2.drewX ?_) | (with_reducible refine C2.alloc ?_ _)))); replace ox0 := Lib.hid (own2At hb ox0.out); replace ox1 := Lib.hid (own2At hb ox1.out); replace oG0 := Lib.hid (own2At hb oG0.out); clear hb RXd RY))
      have hcn : H4 ≤ wd1.heap.size := by omega
      clear hc hs hs2
      have hc := hcn
      clear hcn
      go_wp2_with fail
      clear kx0
      refine (markNetwork_any p0 _ _ _ xss0 (1) _ ox0.out (by omega) HLR0.out (by omega) (by have := HSUM0.out; have := HZE0.out; have := HSUM1.out; have := HZE1.out; omega)).mono ?_
      rintro e w7_ ⟨rfl, om, oo⟩
      have hs := oo.size
      (repeat (first | rw [World.size_alloc] at hs | rw [World.size_drew] at hs))
      replace kp0 := C2.only kp0 oo (by have := kp0.2.2.2.2; omega)
      replace kp1 := C2.only kp1 oo (by have := kp1.2.2.2.2; omega)
      replace kW0 := C2.only kW0 oo (by have := kW0.2.2.2.2; omega)
      replace kx1 := C2.only kx1 oo (by have := kx1.2.2.2.2; omega)
      replace kG0 := C2.only kG0 oo (by have := kG0.2.2.2.2; omega)
      replace ox1 := Lib.hid (ox1.out.only oo (by omega))
      replace oG0 := Lib.hid (oG0.out.only oo (by omega))
      replace hL := Only.under hL oo (by omega) (by have := hL.size; omega)
      replace hBW := Only.under hBW oo (by omega) (by have := hBW.size; omega)
      replace hc : H4 ≤ w7_.heap.size := by omega
      clear ox0
      clear om oo hs
      go_wp2_with fail
      clear kx1
      refine (markNetwork_any p1 _ _ _ xss1 (1 + ((sumLen xss0 xss0.length : Nat) : Int)) _ ox1.out (by omega) HLR1.out (by omega) (by have := HSUM0.out; have := HZE0.out; have := HSUM1.out; have := HZE1.out; omega)).mono ?_
      rintro e w8_ ⟨rfl, om, oo⟩
      have hs := oo.size
      (repeat (first | rw [World.size_alloc] at hs | rw [World.size_drew] at hs))
      replace kp0 := C2.only kp0 oo (by have := kp0.2.2.2.2; omega)
      replace kp1 := C2.only kp1 oo (by have := kp1.2.2.2.2; omega)
      replace kW0 := C2.only kW0 oo (by have := kW0.2.2.2.2; omega)
      replace kG0 := C2.only kG0 oo (by have := kG0.2.2.2.2; omega)
      replace oG0 := Lib.hid (oG0.out.only oo (by omega))
      replace hL := Only.under hL oo (by omega) (by have := hL.size; omega)
      replace hBW := Only.under hBW oo (by omega) (by have := hBW.size; omega)
      replace hc : H4 ≤ w8_.heap.size := by omega
      clear ox1
      clear om oo hs
      have hneg : ¬ (1 + ((sumLen xss0 xss0.length : Nat) : Int) + ((sumLen xss1 xss1.length : Nat) : Int)) < 0 := by have := HSUM0.out; have := HZE0.out; have := HSUM1.out; have := HZE1.out; omega
      go_wp2_with fail
      refine (eqNetwork_same _ _ _ l0 _ (oG0.out.keep (by go_grown)).reads (HW0.out.keep (by go_grown))).mono ?_
      rintro e w9_ ⟨rfl, hb⟩
      have hx := chain (B := w8_.heap.size) (a := w8_) (by go_grown) (Nat.le_refl _) hb
      have hs := hb.size
      (repeat (first | rw [World.size_alloc] at hs | rw [World.size_drew] at hs))
      replace kp0 := kp0.keep hx
      replace kp1 := kp1.keep hx
      replace kW0 := kW0.keep hx
      replace kG0 := kG0.keep hx
      replace oG0 := Lib.hid (oG0.out.keep hx)
      replace hL := chain (B := w.heap.size) (a := w) hL (by first | exact Nat.le_refl _ | simp) hx
      replace hBW := chain (B := wW.heap.size) (a := wW) hBW (Nat.le_refl _) hx
      replace hc : H4 ≤ w9_.heap.size := by omega
      clear hx hs hb
      go_wp2_with fail
      refine (markNetwork_any rp0 _ _ _ l0 (1) _ oG0.out (by omega) HLEN0.out.2.2 (by omega) (by have := HLEN0.out.2.1; have := HLEN0.out.1; omega)).mono ?_
      rintro e w10_ ⟨rfl, om, oo⟩
      have hs := oo.size
      (repeat (first | rw [World.size_alloc] at hs | rw [World.size_drew] at hs))
      replace kp0 := C2.only kp0 oo (by have := kp0.2.2.2.2; omega)
      replace kp1 := C2.only kp1 oo (by have := kp1.2.2.2.2; omega)
      replace kW0 := C2.only kW0 oo (by have := kW0.2.2.2.2; omega)
      replace kG0 := C2.only kG0 oo (by have := kG0.2.2.2.2; omega)
      replace hL := Only.under hL oo (by omega) (by have := hL.size; omega)
      replace hBW := Only.under hBW oo (by omega) (by have := hBW.size; omega)
      replace hc : H4 ≤ w10_.heap.size := by omega
      clear oG0
      have oM0 := Lib.hid om
      clear om oo hs
      go_wp2_with fail
      have hqa0 : ¬ (1 + ((sumLen l0 l0.length : Nat) : Int)) < 0 := by have := HLEN0.out.2.1; have := HLEN0.out.1; omega
      refine (heldNetwork_any rp0 _ l0 (1) _ (oM0.out.keep (by go_grown)).reads HLEN0.out.2.2 (by omega) (by have := HLEN0.out.2.1; have := HLEN0.out.1; omega)).mono ?_
      rintro e w11_ ⟨rfl, hb⟩
      have hx := chain (B := w10_.heap.size) (a := w10_) (by go_grown) (Nat.le_refl _) hb
      have hs := hb.size
      (repeat (first | rw [World.size_alloc] at hs | rw [World.size_drew] at hs))
      replace kp0 := kp0.keep hx
      replace kp1 := kp1.keep hx
      replace kW0 := kW0.keep hx
      replace kG0 := kG0.keep hx
      replace oM0 := Lib.hid (oM0.out.keep hx)
      replace hL := chain (B := w.heap.size) (a := w) hL (by first | exact Nat.le_refl _ | simp) hx
      replace hBW := chain (B := wW.heap.size) (a := wW) hBW (Nat.le_refl _) hx
      replace hc : H4 ≤ w11_.heap.size := by omega
      clear hx hs hb
      clear hqa0
      have hst_kp0 := kp0.2.2.2.2
      have hst_kp1 := kp1.2.2.2.2
      have hst_kW0 := kW0.2.2.2.2
      have hst_kG0 := kG0.2.2.2.2
      go_upto_region 31 with fail
      go_cut [15, 16] (fun sb sc wx => ∃ (g : Nat) (Za0 : Option Addr) (Zc0 : Nat), sb = .pointer (some ⟨g, 0, none⟩) ∧ sc = .int .i64 c1 ∧ Below w.heap.size w wx ∧ Below wW.heap.size wW wx ∧ C2 wx g (.int .i64 rp0) (.slice Za0 l0.length Zc0) ∧ C2 wx (w.heap.size) (.int .i64 p0) (.slice a0 xss0.length ca0) ∧ C2 wx (w.heap.size + 1) (.int .i64 p1) (.slice a1 xss1.length ca1) ∧ C2 wx gW (.int .i64 rp0) (.slice Wa0 l0.length Wc0) ∧ C2 wx w5_.heap.size (.int .i64 rp0) (.slice Ga0 l0.length Gc0) ∧ Hid (Own2 wx H3 H4 (.slice Ga0 l0.length Gc0) (rowsK 1 l0 l0.length)) ∧ Hid (Reads2 wx (.slice Za0 l0.length Zc0) l0))
      case first =>
        go_region_held3 (fun w' => C2 w' (w.heap.size) (.int .i64 p0) (.slice a0 xss0.length ca0) ∧ C2 w' (w.heap.size + 1) (.int .i64 p1) (.slice a1 xss1.length ca1))
          ((first | (refine ⟨?_, ?_⟩ <;> ((repeat' (first | (with_reducible assumption) | (with_reducible refine C2.drewX ?_) | (with_reducible refine C2.alloc ?_ _) | (with_reducible refine C2.set ?_ _ _ _ (by omega)))); done)) | ((repeat' (first | (with_reducible assumption) | (with_reducible refine C2.drewX ?_) | (with_reducible refine C2.alloc ?_ _) | (with_reducible refine C2.set ?_ _ _ _ (by omega)))); done)))
          (first | (go_at_call 14; (with_reducible refine (toNetwork_x p0 _ xss0 _ (HR0.out.keep (by go_grown)) HN0.out HLR0.out).mono ?_); rintro e wa ⟨na0, nc0, B0_, C0_, rfl, on, hB, hC, hb⟩; have hz := hb.size; (repeat (first | rw [World.size_alloc] at hz | rw [World.size_drew] at hz)); have hL := chain (B := w.heap.size) (a := w) (by go_grown) (Nat.le_refl _) hb; have hBW := chain (B := wW.heap.size) (a := wW) (by go_grown) (Nat.le_refl _) hb; replace kp0 := keepAt hb (show C2 _ (w.heap.size) (.int .i64 p0) (.slice a0 xss0.length ca0) from by (repeat' (first | (with_reducible assumption) | (with_reducible refine C2.drewX ?_) | (with_reducible refine C2.alloc ?_ _)))); replace kp1 := keepAt hb (show C2 _ (w.heap.size + 1) (.int .i64 p1) (.slice a1 xss1.length ca1) from by (repeat' (first | (with_reducible assumption) | (with_reducible refine C2.drewX ?_) | (with_reducible refine C2.alloc ?_ _)))); replace kW0 := keepAt hb (show C2 _ gW (.int .i64 rp0) (.slice Wa0 l0.length Wc0) from by (repeat' (first | (with_reducible assumption) | (with_reducible refine C2.drewX ?_) | (with_reducible refine C2.alloc ?_ _)))); replace kG0 := keepAt hb (show C2 _ w5_.heap.size (.int .i64 rp0) (.slice Ga0 l0.length Gc0) from by (repeat' (first | (with_reducible assumption) | (with_reducible refine C2.drewX ?_) | (with_reducible refine C2.alloc ?_ _)))); replace oM0 := Lib.hid (own2At hb (show Own2 _ H3 H4 (.slice Ga0 l0.length Gc0) (rowsK 1 l0 l0.length) from by first | exact oM0.out | exact Own2.keep oM0.out (by go_grown))); (try replace kn := keepAt hb (show C2 _ _ (.int .i64 0) (.slice none 0 0) from by first | exact kn | exact kn.alloc _)); (try (first | (have kn := keepAt hb (C2.here _ (.int .i64 0) (.slice none 0 0) 26)) | (have kn := keepAt hb (C2.hereD _ (.int .i64 0) (.slice none 0 0) 26)))); (try (repeat (first | rw [World.size_alloc] at kn | rw [World.size_drew] at kn))); have RA0 := Lib.hid on.reads; clear hb on hB hC) | (go_at_call 14; (with_reducible refine (toNetwork_x p1 _ xss1 _ (HR1.out.keep (by go_grown)) HN1.out HLR1.out).mono ?_); rintro e wb ⟨na1, nc1, B1_, C1_, rfl, on, hB, hC, hb⟩; have hz := hb.size; (repeat (first | rw [World.size_alloc] at hz | rw [World.size_drew] at hz)); have hL := chain (B := w.heap.size) (a := w) (by go_grown) (Nat.le_refl _) hb; have hBW := chain (B := wW.heap.size) (a := wW) (by go_grown) (Nat.le_refl _) hb; replace kp0 := keepAt hb (show C2 _ (w.heap.size) (.int .i64 p0) (.slice a0 xss0.length ca0) from by (repeat' (first | (with_reducible assumption) | (with_reducible refine C2.drewX ?_) | (with_reducible refine C2.alloc ?_ _)))); replace kp1 := keepAt hb (show C2 _ (w.heap.size + 1) (.int .i64 p1) (.slice a1 xss1.length ca1) from by (repeat' (first | (with_reducible assumption) | (with_reducible refine C2.drewX ?_) | (with_reducible refine C2.alloc ?_ _)))); replace kW0 := keepAt hb (show C2 _ gW (.int .i64 rp0) (.slice Wa0 l0.length Wc0) from by (repeat' (first | (with_reducible assumption) | (with_reducible refine C2.drewX ?_) | (with_reducible refine C2.alloc ?_ _)))); replace kG0 := keepAt hb (show C2 _ w5_.heap.size (.int .i64 rp0) (.slice Ga0 l0.length Gc0) from by (repeat' (first | (with_reducible assumption) | (with_reducible refine C2.drewX ?_) | (with_reducible refine C2.alloc ?_ _)))); replace oM0 := Lib.hid (own2At hb (show Own2 _ H3 H4 (.slice Ga0 l0.length Gc0) (rowsK 1 l0 l0.length) from by first | exact oM0.out | exact Own2.keep oM0.out (by go_grown))); (try replace kn := keepAt hb (show C2 _ _ (.int .i64 0) (.slice none 0 0) from by first | exact kn | exact kn.alloc _)); (try (first | (have kn := keepAt hb (C2.here _ (.int .i64 0) (.slice none 0 0) 26)) | (have kn := keepAt hb (C2.hereD _ (.int .i64 0) (.slice none 0 0) 26)))); (try (repeat (first | rw [World.size_alloc] at kn | rw [World.size_drew] at kn))); replace RA0 := Lib.hid (RA0.out.keep (chain (B := wa.heap.size) (a := wa) (by go_grown) (Nat.le_refl _) hb)); have RA1 := Lib.hid on.reads; clear hb on hB hC) | (go_at_call 22; (with_reducible refine (D1.out _ _ _ (RA0.out.keep (by go_grown)) (RA1.out.keep (by go_grown))).mono ?_); rintro e wd ⟨Za0, Zc0, rfl, of0, hb⟩; have hz := hb.size; (repeat (first | rw [World.size_alloc] at hz | rw [World.size_drew] at hz)); have hL := chain (B := w.heap.size) (a := w) (by go_grown) (Nat.le_refl _) hb; have hBW := chain (B := wW.heap.size) (a := wW) (by go_grown) (Nat.le_refl _) hb; replace kp0 := keepAt hb (show C2 _ (w.heap.size) (.int .i64 p0) (.slice a0 xss0.length ca0) from by (repeat' (first | (with_reducible assumption) | (with_reducible refine C2.drewX ?_) | (with_reducible refine C2.alloc ?_ _)))); replace kp1 := keepAt hb (show C2 _ (w.heap.size + 1) (.int .i64 p1) (.slice a1 xss1.length ca1) from by (repeat' (first | (with_reducible assumption) | (with_reducible refine C2.drewX ?_) | (with_reducible refine C2.alloc ?_ _)))); replace kW0 := keepAt hb (show C2 _ gW (.int .i64 rp0) (.slice Wa0 l0.length Wc0) from by (repeat' (first | (with_reducible assumption) | (with_reducible refine C2.drewX ?_) | (with_reducible refine C2.alloc ?_ _)))); replace kG0 := keepAt hb (show C2 _ w5_.heap.size (.int .i64 rp0) (.slice Ga0 l0.length Gc0) from by (repeat' (first | (with_reducible assumption) | (with_reducible refine C2.drewX ?_) | (with_reducible refine C2.alloc ?_ _)))); replace oM0 := Lib.hid (own2At hb (show Own2 _ H3 H4 (.slice Ga0 l0.length Gc0) (rowsK 1 l0 l0.length) from by first | exact oM0.out | exact Own2.keep oM0.out (by go_grown))); (try replace kn := keepAt hb (show C2 _ _ (.int .i64 0) (.slice none 0 0) from by first | exact kn | exact kn.alloc _)); (try (first | (have kn := keepAt hb (C2.here _ (.int .i64 0) (.slice none 0 0) 26)) | (have kn := keepAt hb (C2.hereD _ (.int .i64 0) (.slice none 0 0) 26)))); (try (repeat (first | rw [World.size_alloc] at kn | rw [World.size_drew] at kn))); have RW := Lib.hid of0.reads; clear hb of0))
        all_goals go_wp2_with fail
        all_goals go_meet
        all_goals (first | exact ⟨_, _, _, rfl, rfl, by go_grown, by go_grown, C2.here _ _ _ _, kp0.alloc _, kp1.alloc _, kW0.alloc _, kG0.alloc _, Lib.hid (Own2.keep oM0.out (by go_grown)), Lib.hid (RW.out.keep (by go_grown))⟩ | exact ⟨_, _, _, rfl, rfl, by go_grown, by go_grown, C2.fill kn _ _, (kp0.set _ _ _ (by omega)).set _ _ _ (by omega), (kp1.set _ _ _ (by omega)).set _ _ _ (by omega), (kW0.set _ _ _ (by omega)).set _ _ _ (by omega), (kG0.set _ _ _ (by omega)).set _ _ _ (by omega), Lib.hid ((oM0.out.setCellHi _ _ (by (try simp only); omega)).setCellHi _ _ (by (try simp only); omega)), Lib.hid (Reads2.setBox RW.out H4_0.out kn _ _)⟩)
      case rest =>
      clear hL hBW kp0 kp1 kW0 kG0 oM0 hst_kp0 hst_kp1 hst_kW0 hst_kG0
      obtain ⟨gZ, Za0, Zc0, rfl, rfl, hL, hBW, kZ0, kp0, kp1, kW0, kG0, oM0, HW_⟩ := hcut
      have RZ0 := HW_; clear HW_
      have hgZ := kZ0.2.2.2.2
      obtain ⟨wZ, rfl⟩ : ∃ x : World, x = wc := ⟨_, rfl⟩
      replace hc : H4 ≤ wZ.heap.size := by have := hL.size; have := kG0.2.2.2.2; omega
      go_wp2_with fail
      refine (eqNetwork_same _ _ _ l0 _ (RZ0.out.keep (by go_grown)) (HW0.out.keep (by go_grown))).mono ?_
      rintro e w12_ ⟨rfl, hb⟩
      have hx := chain (B := wZ.heap.size) (a := wZ) (by go_grown) (Nat.le_refl _) hb
      have hs := hb.size
      (repeat (first | rw [World.size_alloc] at hs | rw [World.size_drew] at hs))
      replace kp0 := kp0.keep hx
      replace kp1 := kp1.keep hx
      replace kW0 := kW0.keep hx
      replace kG0 := kG0.keep hx
      replace kZ0 := kZ0.keep hx
      replace oM0 := Lib.hid (oM0.out.keep hx)
      replace hL := chain (B := w.heap.size) (a := w) hL (by first | exact Nat.le_refl _ | simp) hx
      replace hBW := chain (B := wW.heap.size) (a := wW) hBW (Nat.le_refl _) hx
      replace hc : H4 ≤ w12_.heap.size := by omega
      clear hx hs hb
      go_wp2_with fail
      have hqb0 : ¬ (1 + ((sumLen l0 l0.length : Nat) : Int)) < 0 := by have := HLEN0.out.2.1; have := HLEN0.out.1; omega
      refine (heldNetwork_any rp0 _ l0 (1) _ (oM0.out.keep (by go_grown)).reads HLEN0.out.2.2 (by omega) (by have := HLEN0.out.2.1; have := HLEN0.out.1; omega)).mono ?_
      rintro e w13_ ⟨rfl, hb⟩
      have hx := chain (B := w12_.heap.size) (a := w12_) (by go_grown) (Nat.le_refl _) hb
      have hs := hb.size
      (repeat (first | rw [World.size_alloc] at hs | rw [World.size_drew] at hs))
      replace kp0 := kp0.keep hx
      replace kp1 := kp1.keep hx
      replace kW0 := kW0.keep hx
      replace kG0 := kG0.keep hx
      replace kZ0 := kZ0.keep hx
      replace oM0 := Lib.hid (oM0.out.keep hx)
      replace hL := chain (B := w.heap.size) (a := w) hL (by first | exact Nat.le_refl _ | simp) hx
      replace hBW := chain (B := wW.heap.size) (a := wW) hBW (Nat.le_refl _) hx
      replace hc : H4 ≤ w13_.heap.size := by omega
      clear hx hs hb
      go_wp2_with fail
      go_ret
      exact ⟨rfl, by first | assumption | go_grown⟩

end Go.Proofs.Ytnmjdphibphpnaa
