/- The walk of FnExactChanceApart. -/
import Derived.Test.YtibfenkaoaclfaaApS
import Derived.Test.YtibfenkaoaclfaaLk
namespace Go.Proofs.Ytibfenkaoaclfaa
open Go.RowKit
set_option linter.unusedVariables false

set_option maxRecDepth 100000 in
set_option maxHeartbeats 8000000 in
theorem walkFnExactChanceApart (n0 m0 : Int) (wa0 : (Lit.int .i64 n0).wf = true) (wb0 : (Lit.int .i64 m0).wf = true) (va1 : Value) (xss1 : List (List Int)) (w : World) (ha1 : Reads2 w va1 xss1) :
    Calls Try.prog 9 #[.agg #[.int .i64 n0, .int .i64 m0], va1] w fun e w' => e = .returned (.bool true) ∧ Below w.heap.size w w' := by
  have HR1 := Lib.hid ha1
  obtain ⟨a1, ca1, rfl, _, _⟩ := ha1
  have kp0 : C2 (w.alloc (.cells #[.int .i64 n0, .int .i64 m0] 43)) (w.heap.size) (.int .i64 n0) (.int .i64 m0) := by simpa using C2.here w (.int .i64 n0) (.int .i64 m0) 43
  have hL0 : Below w.heap.size w (w.alloc (.cells #[.int .i64 n0, .int .i64 m0] 43)) := (Below.refl _ _).alloc (by simp) (.cells #[.int .i64 n0, .int .i64 m0] 43)
  obtain ⟨z1, hz1⟩ : ∃ z, szZ2 1048576 xss1 = z := ⟨_, rfl⟩
  have HZ1 := Lib.hid hz1
  have ZB1 : Hid ((0 : Int) ≤ 1048576 ∧ (1048576 : Int) ≤ 1048576) := by unfold Hid; omega
  by_cases hzn1 : z1 = -1
  · subst hzn1
    clear hz1
    have hL := hL0
    clear hL0
    go_enter Try.func9, Try.ntmps9
    go_wp2_with fail
    refine (szInt64SS_b _ xss1 1048576 _ (HR1.out.keep (by go_grown)) ZB1.out.1 ZB1.out.2 HZ1.out).mono ?_
    rintro e we1 ⟨rfl, rfl⟩
    go_wp2_with fail
    go_ret
    exact ⟨rfl, hL⟩
  · obtain ⟨hn1, hlr1, hsum1, hz01, hze1⟩ := purseG hz1 hzn1 (by omega)
    have HN1 := Lib.hid hn1
    have HLR1 := Lib.hid hlr1
    have HSUM1 := Lib.hid hsum1
    have HZE1 := Lib.hid hze1
    have hzneg1 : ¬ z1 < 0 := by omega
    have hzle1 : z1 ≤ 1048576 := by omega
    clear hz1 hlr1 hn1 hzn1 hsum1 hze1
    obtain ⟨c0, hr_c0⟩ : ∃ x : Int, resChanceApart_0 n0 m0 xss1 = x := ⟨_, rfl⟩
    obtain ⟨c1, hr_c1⟩ : ∃ x : Int, resChanceApart_1 n0 m0 xss1 = x := ⟨_, rfl⟩
    obtain ⟨c2, hr_c2⟩ : ∃ x : Int, resChanceApart_2 n0 m0 xss1 = x := ⟨_, rfl⟩
    have D1 : Hid (∀ (u_1 : Value) (w : World), Reads2 w u_1 xss1 → Calls Try.prog 33 #[.agg #[.int .i64 n0, .int .i64 m0], u_1] w fun e w' => e = .returned (.tuple #[.int .i64 c0, .int .i64 c1, .int .i64 c2]) ∧ Below w.heap.size w w') := fun u_1 w h1 => by subst hr_c0 hr_c1 hr_c2; exact iChanceApart_any n0 m0 u_1 xss1 w h1
    have D2 : Hid (∀ (u_1 : Value) (w : World), Reads2 w u_1 xss1 → Calls Try.prog 31 #[.agg #[.int .i64 n0, .int .i64 m0], u_1] w fun e w' => e = .returned (.tuple #[.int .i64 c0, .int .i64 c1, .int .i64 c2]) ∧ Below w.heap.size w w') := fun u_1 w h1 => by subst hr_c0 hr_c1 hr_c2; exact sChanceApart_any n0 m0 u_1 xss1 w h1
    clear hr_c0 hr_c1 hr_c2
    have hL := hL0
    clear hL0
    obtain ⟨H0, hH0, hc⟩ : ∃ H, w.heap.size + 1 ≤ H ∧ H ≤ w.heap.size + 1 := ⟨_, Nat.le_refl _, Nat.le_refl _⟩
    have hHU0 := hc
    go_enter Try.func9, Try.ntmps9
    go_wp2_with fail
    refine (szInt64SS_b _ xss1 1048576 _ (HR1.out.keep (by go_grown)) ZB1.out.1 ZB1.out.2 HZ1.out).mono ?_
    rintro e w1_ ⟨rfl, rfl⟩
    go_wp2_with fail
    refine (toTable_any _ _ _).mono ?_
    rintro e w2_ ⟨rfl, hb⟩
    have hx := chain (B := (w.alloc (.cells #[.int .i64 n0, .int .i64 m0] 43)).heap.size) (a := (w.alloc (.cells #[.int .i64 n0, .int .i64 m0] 43))) (by go_grown) (Nat.le_refl _) hb
    have hs := hb.size
    (repeat (first | rw [World.size_alloc] at hs | rw [World.size_drew] at hs))
    replace kp0 := kp0.keep hx
    replace hL := chain (B := w.heap.size) (a := w) hL (by first | exact Nat.le_refl _ | simp) hx
    replace hc : H0 ≤ w2_.heap.size := by omega
    clear hx hs hb
    go_wp2_with fail
    refine (toInt64SS_x _ xss1 _ (HR1.out.keep (by go_grown)) HN1.out HLR1.out).mono ?_
    rintro e w3_ ⟨nu1, nB1, nC1, rfl, on, hB, ⟨hBC, hC⟩, hb⟩
    have hx := chain (B := w2_.heap.size) (a := w2_) (by go_grown) (Nat.le_refl _) hb
    have hs := hb.size
    (repeat (first | rw [World.size_alloc] at hs | rw [World.size_drew] at hs))
    replace kp0 := kp0.keep hx
    replace hL := chain (B := w.heap.size) (a := w) hL (by first | exact Nat.le_refl _ | simp) hx
    have on1 := Lib.hid on
    replace hc : H0 ≤ w3_.heap.size := by omega
    clear hx hs hb hB hBC hC on
    go_wp2_with fail
    refine (D2.out _ _ on1.out.reads).mono ?_
    rintro e w4_ ⟨rfl, hb⟩
    have hx := chain (B := w3_.heap.size) (a := w3_) (by go_grown) (Nat.le_refl _) hb
    have hs := hb.size
    (repeat (first | rw [World.size_alloc] at hs | rw [World.size_drew] at hs))
    replace kp0 := kp0.keep hx
    replace on1 := Lib.hid (on1.out.keep hx)
    replace hL := chain (B := w.heap.size) (a := w) hL (by first | exact Nat.le_refl _ | simp) hx
    replace hc : H0 ≤ w4_.heap.size := by omega
    clear hx hs hb
    clear on1
    obtain ⟨H1, hH1, hcn⟩ : ∃ H, w4_.heap.size ≤ H ∧ H ≤ w4_.heap.size := ⟨_, Nat.le_refl _, Nat.le_refl _⟩
    have hHH1 : H0 ≤ H1 := by omega
    have hHU1 := hcn
    clear hc
    have hc := hcn
    clear hcn
    go_wp2_with fail
    refine (toInt64SS_x _ xss1 _ (HR1.out.keep (by go_grown)) HN1.out HLR1.out).mono ?_
    rintro e w5_ ⟨xu1, xB1, xC1, rfl, on, hB, ⟨hBC, hC⟩, hb⟩
    have hx := chain (B := w4_.heap.size) (a := w4_) (by go_grown) (Nat.le_refl _) hb
    have hs := hb.size
    (repeat (first | rw [World.size_alloc] at hs | rw [World.size_drew] at hs))
    replace kp0 := kp0.keep hx
    replace hL := chain (B := w.heap.size) (a := w) hL (by first | exact Nat.le_refl _ | simp) hx
    (repeat (first | rw [World.size_alloc] at hB | rw [World.size_drew] at hB))
    have hLO1 : H1 ≤ xB1 := by omega
    have hHI1 := hC
    obtain ⟨H2, hH2, hcn⟩ : ∃ H, w5_.heap.size ≤ H ∧ H ≤ w5_.heap.size := ⟨_, Nat.le_refl _, Nat.le_refl _⟩
    have hHH2 : H1 ≤ H2 := by omega
    have hHU2 := hcn
    clear hc
    have hc := hcn
    clear hcn
    clear hx hs hb hB hC
    have ox1 := Lib.hid on
    clear on
    have hBC1 := hBC
    clear hBC
    go_wp2_with fail
    refine (toTable_any _ _ _).mono ?_
    rintro e w6_ ⟨rfl, hb⟩
    have hx := chain (B := w5_.heap.size) (a := w5_) (by go_grown) (Nat.le_refl _) hb
    have hs := hb.size
    (repeat (first | rw [World.size_alloc] at hs | rw [World.size_drew] at hs))
    replace kp0 := kp0.keep hx
    replace ox1 := Lib.hid (ox1.out.keep hx)
    replace hL := chain (B := w.heap.size) (a := w) hL (by first | exact Nat.le_refl _ | simp) hx
    replace hc : H2 ≤ w6_.heap.size := by omega
    clear hx hs hb
    go_wp2_with fail
    refine (D1.out _ _ (ox1.out.keep (by first | go_grown | exact (Below.refl _ _).alloc (Nat.le_refl _) _)).reads).mono ?_
    rintro e w7_ ⟨rfl, hb⟩
    have hx := chain (B := w6_.heap.size) (a := w6_) (by go_grown) (Nat.le_refl _) hb
    have hs := hb.size
    (repeat (first | rw [World.size_alloc] at hs | rw [World.size_drew] at hs))
    replace kp0 := kp0.keep hx
    replace ox1 := Lib.hid (ox1.out.keep hx)
    replace hL := chain (B := w.heap.size) (a := w) hL (by first | exact Nat.le_refl _ | simp) hx
    replace hc : H2 ≤ w7_.heap.size := by omega
    clear hx hs hb
    go_wp2_with fail
    refine (toInt64SS_x _ xss1 _ (HR1.out.keep (by go_grown)) HN1.out HLR1.out).mono ?_
    rintro e w8_ ⟨yu1, yB1, yC1, rfl, on, hB, ⟨hBC, hC⟩, hb⟩
    have hx := chain (B := w7_.heap.size) (a := w7_) (by go_grown) (Nat.le_refl _) hb
    have hs := hb.size
    (repeat (first | rw [World.size_alloc] at hs | rw [World.size_drew] at hs))
    replace kp0 := kp0.keep hx
    replace ox1 := Lib.hid (ox1.out.keep hx)
    replace hL := chain (B := w.heap.size) (a := w) hL (by first | exact Nat.le_refl _ | simp) hx
    have oy1 := Lib.hid on
    replace hc : H2 ≤ w8_.heap.size := by omega
    clear hx hs hb hB hBC hC on
    go_wp2_with fail
    refine (eqInt64SS_same _ _ xss1 _ (ox1.out.keep (by go_grown)).reads (oy1.out.keep (by go_grown)).reads).mono ?_
    rintro e w9_ ⟨rfl, hb⟩
    have hx := chain (B := w8_.heap.size) (a := w8_) (by go_grown) (Nat.le_refl _) hb
    have hs := hb.size
    (repeat (first | rw [World.size_alloc] at hs | rw [World.size_drew] at hs))
    replace kp0 := kp0.keep hx
    replace ox1 := Lib.hid (ox1.out.keep hx)
    replace oy1 := Lib.hid (oy1.out.keep hx)
    replace hL := chain (B := w.heap.size) (a := w) hL (by first | exact Nat.le_refl _ | simp) hx
    replace hc : H2 ≤ w9_.heap.size := by omega
    clear hx hs hb
    clear oy1
    go_wp2_with fail
    go_ret
    exact ⟨rfl, by first | assumption | go_grown⟩

end Go.Proofs.Ytibfenkaoaclfaa
