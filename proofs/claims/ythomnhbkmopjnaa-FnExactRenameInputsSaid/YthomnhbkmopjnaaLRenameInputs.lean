/- The walk of FnExactRenameInputs. -/
import Derived.Test.YthomnhbkmopjnaaRiI
import Derived.Test.YthomnhbkmopjnaaLkS
import Derived.Test.YthomnhbkmopjnaaRowRd
import Derived.Test.YthomnhbkmopjnaaTool
namespace Go.Proofs.Ythomnhbkmopjnaa
open Go.RowKit
set_option linter.unusedVariables false

set_option maxRecDepth 100000 in
set_option maxHeartbeats 8000000 in
theorem walkFnExactRenameInputs (n0 m0 : Int) (wa0 : (Lit.int .i64 n0).wf = true) (wb0 : (Lit.int .i64 m0).wf = true) (a1 : Option Addr) (len1 cap1 : Nat) (zs1 : List Int) (w : World) (hrow1 : IsRow .i64 w a1 len1 cap1 zs1) :
    Calls Try.prog 3 #[.agg #[.int .i64 n0, .int .i64 m0], .slice a1 len1 cap1] w fun e w' => e = .returned (.bool true) ∧ Below w.heap.size w w' := by
  have ha1 := hrow1.reads
  have hl1 : (zs1.take len1).length = len1 := by
    rcases hrow1 with ⟨rfl, rfl, rfl, rfl⟩ | ⟨x, rfl, h1, h2, h3, _, _⟩
    · simp
    · simp; omega
  clear hrow1
  obtain ⟨xs1, hxs1⟩ : ∃ l, zs1.take len1 = l := ⟨_, rfl⟩
  rw [hxs1] at ha1 hl1
  clear hxs1
  subst hl1
  by_cases hbig1 : (1048576 : Int) < (xs1.length : Int)
  · clear ha1
    go_enter Try.func3, Try.ntmps3
    go_wp2_with (fail)
    go_ret
    exact ⟨rfl, by first | exact Below.refl _ _ | go_grown⟩
  · have hlen1 : Hid ((xs1.length : Int) ≤ 1048576) := by unfold Hid; omega
    have HR1 := Lib.hid ha1
    clear ha1
    have kp0 : C2 (w.alloc (.cells #[.int .i64 n0, .int .i64 m0] 23)) (w.heap.size) (.int .i64 n0) (.int .i64 m0) := by simpa using C2.here w (.int .i64 n0) (.int .i64 m0) 23
    have hL0 : Below w.heap.size w (w.alloc (.cells #[.int .i64 n0, .int .i64 m0] 23)) := (Below.refl _ _).alloc (by simp) (.cells #[.int .i64 n0, .int .i64 m0] 23)
    obtain ⟨rn0, hr_rn0⟩ : ∃ x : Int, resRenameInputs_0n n0 m0 xs1 = x := ⟨_, rfl⟩
    obtain ⟨rm0, hr_rm0⟩ : ∃ x : Int, resRenameInputs_0m n0 m0 xs1 = x := ⟨_, rfl⟩
    obtain ⟨c1, hr_c1⟩ : ∃ x : Int, resRenameInputs_1 n0 m0 xs1 = x := ⟨_, rfl⟩
    have D1 : Hid (∀ (u_1 : Value) (w : World), Reads w u_1 xs1 → Calls Try.prog 7 #[.agg #[.int .i64 n0, .int .i64 m0], u_1] w fun e w' => e = .returned (.tuple #[.agg #[.int .i64 rn0, .int .i64 rm0], .int .i64 c1]) ∧ Below w.heap.size w w') := fun u_1 w h1 => by subst hr_rn0 hr_rm0 hr_c1; exact iRenameInputs_any n0 m0 u_1 xs1 w h1
    have D2 : Hid (∀ (u_1 : Value) (w : World), Reads w u_1 xs1 → Calls Try.prog 4 #[.agg #[.int .i64 n0, .int .i64 m0], u_1] w fun e w' => e = .returned (.tuple #[.agg #[.int .i64 rn0, .int .i64 rm0], .int .i64 c1]) ∧ Below w.heap.size w w') := fun u_1 w h1 => by subst hr_rn0 hr_rm0 hr_c1; exact sRenameInputs_any n0 m0 u_1 xs1 w h1
    clear hr_rn0 hr_rm0 hr_c1
    have hL := hL0
    clear hL0
    obtain ⟨H0, hH0, hc⟩ : ∃ H, w.heap.size + 1 ≤ H ∧ H ≤ w.heap.size + 1 := ⟨_, Nat.le_refl _, Nat.le_refl _⟩
    have hHU0 := hc
    go_enter Try.func3, Try.ntmps3
    go_wp2_with fail
    refine (toTable_any _ _ _).mono ?_
    rintro e w1_ ⟨rfl, hb⟩
    have hx := chain (B := (w.alloc (.cells #[.int .i64 n0, .int .i64 m0] 23)).heap.size) (a := (w.alloc (.cells #[.int .i64 n0, .int .i64 m0] 23))) (by go_grown) (Nat.le_refl _) hb
    have hs := hb.size
    (repeat (first | rw [World.size_alloc] at hs | rw [World.size_drew] at hs))
    replace kp0 := kp0.keep hx
    replace hL := chain (B := w.heap.size) (a := w) hL (by first | exact Nat.le_refl _ | simp) hx
    replace hc : H0 ≤ w1_.heap.size := by omega
    clear hx hs hb
    go_wp2_with fail
    refine (toInt64S_x _ xs1 _ (HR1.out.keep (by first | exact hL | exact hL.alloc hL.size _ | go_grown)) (by have := hlen1.out; omega)).mono ?_
    rintro e w2_ ⟨nu1, nB1, nC1, rfl, on, hB, ⟨hBC, hC⟩, hb⟩
    have hx := chain (B := w1_.heap.size) (a := w1_) (by go_grown) (Nat.le_refl _) hb
    have hs := hb.size
    (repeat (first | rw [World.size_alloc] at hs | rw [World.size_drew] at hs))
    replace kp0 := kp0.keep hx
    replace hL := chain (B := w.heap.size) (a := w) hL (by first | exact Nat.le_refl _ | simp) hx
    have on1 := Lib.hid on
    replace hc : H0 ≤ w2_.heap.size := by omega
    clear hx hs hb hB hBC hC on
    go_wp2_with fail
    refine (D2.out _ _ on1.out.reads).mono ?_
    rintro e w3_ ⟨rfl, hb⟩
    have hx := chain (B := w2_.heap.size) (a := w2_) (by go_grown) (Nat.le_refl _) hb
    have hs := hb.size
    (repeat (first | rw [World.size_alloc] at hs | rw [World.size_drew] at hs))
    replace kp0 := kp0.keep hx
    replace on1 := Lib.hid (on1.out.keep hx)
    replace hL := chain (B := w.heap.size) (a := w) hL (by first | exact Nat.le_refl _ | simp) hx
    replace hc : H0 ≤ w3_.heap.size := by omega
    clear hx hs hb
    clear on1
    obtain ⟨H1, hH1, hcn⟩ : ∃ H, w3_.heap.size + 1 ≤ H ∧ H ≤ w3_.heap.size + 1 := ⟨_, Nat.le_refl _, Nat.le_refl _⟩
    have hHH1 : H0 ≤ H1 := by omega
    have hHU1 := hcn
    clear hc
    have hc := hcn
    clear hcn
    go_wp2_with fail
    refine (toInt64S_x _ xs1 _ (HR1.out.keep (by first | exact hL | exact hL.alloc hL.size _ | go_grown)) (by have := hlen1.out; omega)).mono ?_
    rintro e w4_ ⟨xu1, xB1, xC1, rfl, on, hB, ⟨hBC, hC⟩, hb⟩
    have hx := chain (B := w3_.heap.size) (a := w3_) (by go_grown) (Nat.le_refl _) hb
    have hs := hb.size
    (repeat (first | rw [World.size_alloc] at hs | rw [World.size_drew] at hs))
    replace kp0 := kp0.keep hx
    have kW0 := keepAt hb (C2.here w3_ (.int .i64 rn0) (.int .i64 rm0) 25)
    replace hL := chain (B := w.heap.size) (a := w) hL (by first | exact Nat.le_refl _ | simp) hx
    (repeat (first | rw [World.size_alloc] at hB | rw [World.size_drew] at hB))
    have hLO1 : H1 ≤ xB1 := by omega
    have hHI1 := hC
    obtain ⟨H2, hH2, hcn⟩ : ∃ H, w4_.heap.size ≤ H ∧ H ≤ w4_.heap.size := ⟨_, Nat.le_refl _, Nat.le_refl _⟩
    have hHH2 : H1 ≤ H2 := by omega
    have hHU2 := hcn
    clear hc
    have hc := hcn
    clear hcn
    clear hx hs hb hB hC
    have ox1 := Lib.hid on
    clear on
    have hBC1 := hBC
    clear hBC
    go_wp2_with fail
    refine (toTable_any _ _ _).mono ?_
    rintro e w5_ ⟨rfl, hb⟩
    have hx := chain (B := w4_.heap.size) (a := w4_) (by go_grown) (Nat.le_refl _) hb
    have hs := hb.size
    (repeat (first | rw [World.size_alloc] at hs | rw [World.size_drew] at hs))
    replace kp0 := kp0.keep hx
    replace kW0 := kW0.keep hx
    replace ox1 := Lib.hid (ox1.out.keep hx)
    replace hL := chain (B := w.heap.size) (a := w) hL (by first | exact Nat.le_refl _ | simp) hx
    replace hc : H2 ≤ w5_.heap.size := by omega
    clear hx hs hb
    go_wp2_with fail
    refine (D1.out _ _ (ox1.out.keep (by first | go_grown | exact (Below.refl _ _).alloc (Nat.le_refl _) _)).reads).mono ?_
    rintro e w6_ ⟨rfl, hb⟩
    have hx := chain (B := w5_.heap.size) (a := w5_) (by go_grown) (Nat.le_refl _) hb
    have hs := hb.size
    (repeat (first | rw [World.size_alloc] at hs | rw [World.size_drew] at hs))
    replace kp0 := kp0.keep hx
    replace kW0 := kW0.keep hx
    replace ox1 := Lib.hid (ox1.out.keep hx)
    replace hL := chain (B := w.heap.size) (a := w) hL (by first | exact Nat.le_refl _ | simp) hx
    replace hc : H2 ≤ w6_.heap.size := by omega
    clear hx hs hb
    go_wp2_with fail
    refine (eqTable_same _ _ _).mono ?_
    rintro e w7_ ⟨rfl, hb⟩
    have hx := chain (B := w6_.heap.size) (a := w6_) (by go_grown) (Nat.le_refl _) hb
    have hs := hb.size
    (repeat (first | rw [World.size_alloc] at hs | rw [World.size_drew] at hs))
    replace kp0 := kp0.keep hx
    replace kW0 := kW0.keep hx
    replace ox1 := Lib.hid (ox1.out.keep hx)
    have kG0 := keepAt hb (C2.here w6_ (.int .i64 rn0) (.int .i64 rm0) 25)
    replace hL := chain (B := w.heap.size) (a := w) hL (by first | exact Nat.le_refl _ | simp) hx
    replace hc : H2 ≤ w7_.heap.size := by omega
    clear hx hs hb
    go_wp2_with fail
    refine (toInt64S_x _ xs1 _ (HR1.out.keep (by first | exact hL | exact hL.alloc hL.size _ | go_grown)) (by have := hlen1.out; omega)).mono ?_
    rintro e w8_ ⟨yu1, yB1, yC1, rfl, on, hB, ⟨hBC, hC⟩, hb⟩
    have hx := chain (B := w7_.heap.size) (a := w7_) (by go_grown) (Nat.le_refl _) hb
    have hs := hb.size
    (repeat (first | rw [World.size_alloc] at hs | rw [World.size_drew] at hs))
    replace kp0 := kp0.keep hx
    replace kW0 := kW0.keep hx
    replace kG0 := kG0.keep hx
    replace ox1 := Lib.hid (ox1.out.keep hx)
    replace hL := chain (B := w.heap.size) (a := w) hL (by first | exact Nat.le_refl _ | simp) hx
    have oy1 := Lib.hid on
    replace hc : H2 ≤ w8_.heap.size := by omega
    clear hx hs hb hB hBC hC on
    go_wp2_with fail
    refine (eqInt64S_same _ _ xs1 _ (ox1.out.keep (by go_grown)).reads (oy1.out.keep (by go_grown)).reads).mono ?_
    rintro e w9_ ⟨rfl, hb⟩
    have hx := chain (B := w8_.heap.size) (a := w8_) (by go_grown) (Nat.le_refl _) hb
    have hs := hb.size
    (repeat (first | rw [World.size_alloc] at hs | rw [World.size_drew] at hs))
    replace kp0 := kp0.keep hx
    replace kW0 := kW0.keep hx
    replace kG0 := kG0.keep hx
    replace ox1 := Lib.hid (ox1.out.keep hx)
    replace oy1 := Lib.hid (oy1.out.keep hx)
    replace hL := chain (B := w.heap.size) (a := w) hL (by first | exact Nat.le_refl _ | simp) hx
    replace hc : H2 ≤ w9_.heap.size := by omega
    clear hx hs hb
    clear oy1
    go_wp2_with fail
    go_ret
    exact ⟨rfl, by first | assumption | go_grown⟩

end Go.Proofs.Ythomnhbkmopjnaa
