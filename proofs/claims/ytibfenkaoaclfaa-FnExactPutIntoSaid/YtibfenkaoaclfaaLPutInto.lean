/- The walk of FnExactPutInto. -/
import Derived.Test.YtibfenkaoaclfaaPutS
import Derived.Test.YtibfenkaoaclfaaLk
import Derived.Test.YtibfenkaoaclfaaRowRd
namespace Go.Proofs.Ytibfenkaoaclfaa
open Go.RowKit
set_option linter.unusedVariables false

set_option maxRecDepth 100000 in
set_option maxHeartbeats 8000000 in
theorem walkFnExactPutInto (a0 : Option Addr) (len0 cap0 : Nat) (zs0 : List Int) (a1 : Option Addr) (len1 cap1 : Nat) (zs1 : List Int) (w : World) (hrow0 : IsRow .i64 w a0 len0 cap0 zs0) (hrow1 : IsRow .i64 w a1 len1 cap1 zs1) :
    Calls Try.prog 5 #[.slice a0 len0 cap0, .slice a1 len1 cap1] w fun e w' => e = .returned (.bool true) ∧ Below w.heap.size w w' := by
  have ha0 := hrow0.reads
  have hl0 : (zs0.take len0).length = len0 := by
    rcases hrow0 with ⟨rfl, rfl, rfl, rfl⟩ | ⟨x, rfl, h1, h2, h3, _, _⟩
    · simp
    · simp; omega
  clear hrow0
  obtain ⟨xs0, hxs0⟩ : ∃ l, zs0.take len0 = l := ⟨_, rfl⟩
  rw [hxs0] at ha0 hl0
  clear hxs0
  subst hl0
  have ha1 := hrow1.reads
  have hl1 : (zs1.take len1).length = len1 := by
    rcases hrow1 with ⟨rfl, rfl, rfl, rfl⟩ | ⟨x, rfl, h1, h2, h3, _, _⟩
    · simp
    · simp; omega
  clear hrow1
  obtain ⟨xs1, hxs1⟩ : ∃ l, zs1.take len1 = l := ⟨_, rfl⟩
  rw [hxs1] at ha1 hl1
  clear hxs1
  subst hl1
  by_cases hbig0 : (1048576 : Int) < (xs0.length : Int)
  · clear ha0 ha1
    go_enter Try.func5, Try.ntmps5
    go_wp2_with (fail)
    go_ret
    exact ⟨rfl, by first | exact Below.refl _ _ | go_grown⟩
  · have hlen0 : Hid ((xs0.length : Int) ≤ 1048576) := by unfold Hid; omega
    by_cases hbig1 : (1048576 : Int) < (xs1.length : Int)
    · clear ha0 ha1
      go_enter Try.func5, Try.ntmps5
      go_wp2_with (fail)
      go_ret
      exact ⟨rfl, by first | exact Below.refl _ _ | go_grown⟩
    · have hlen1 : Hid ((xs1.length : Int) ≤ 1048576) := by unfold Hid; omega
      have HR0 := Lib.hid ha0
      clear ha0
      have HR1 := Lib.hid ha1
      clear ha1
      have hL0 : Below w.heap.size w w := Below.refl _ _
      obtain ⟨l0, hr_l0⟩ : ∃ x : List Int, resPutInto_0 xs0 xs1 = x := ⟨_, rfl⟩
      have HLEN0 : Hid (l0.length ≤ 100000) := by rw [← hr_l0]; exact lenPutInto_0 xs0 xs1
      obtain ⟨c1, hr_c1⟩ : ∃ x : Int, resPutInto_1 xs0 xs1 = x := ⟨_, rfl⟩
      have D1 : Hid (∀ (u_0 u_1 : Value) (w : World), Reads w u_0 xs0 → Reads w u_1 xs1 → Calls Try.prog 19 #[u_0, u_1] w fun e w' => ∃ u0, e = .returned (.tuple #[u0, .int .i64 c1]) ∧ In w' w.heap.size w'.heap.size (u0) l0 ∧ Below w.heap.size w w') := fun u_0 u_1 w h0 h1 => by subst hr_l0 hr_c1; exact iPutInto_any u_0 xs0 u_1 xs1 w h0 h1
      have D2 : Hid (∀ (u_0 u_1 : Value) (w : World), Reads w u_0 xs0 → Reads w u_1 xs1 → Calls Try.prog 18 #[u_0, u_1] w fun e w' => ∃ u0, e = .returned (.tuple #[u0, .int .i64 c1]) ∧ Reads w' (u0) l0 ∧ Below w.heap.size w w') := fun u_0 u_1 w h0 h1 => by subst hr_l0 hr_c1; exact sPutInto_any u_0 xs0 u_1 xs1 w h0 h1
      clear hr_l0 hr_c1
      have hL := hL0
      clear hL0
      obtain ⟨H0, hH0, hc⟩ : ∃ H, w.heap.size + 0 ≤ H ∧ H ≤ w.heap.size + 0 := ⟨_, Nat.le_refl _, Nat.le_refl _⟩
      have hHU0 := hc
      go_enter Try.func5, Try.ntmps5
      go_wp2_with fail
      refine (toInt64S_x _ xs0 _ (HR0.out.keep (by go_grown)) (by have := hlen0.out; omega)).mono ?_
      rintro e w1_ ⟨nu0, nB0, nC0, rfl, on, hB, ⟨hBC, hC⟩, hb⟩
      have hx := chain (B := w.heap.size) (a := w) (by go_grown) (Nat.le_refl _) hb
      have hs := hb.size
      (repeat (first | rw [World.size_alloc] at hs | rw [World.size_drew] at hs))
      replace hL := chain (B := w.heap.size) (a := w) hL (by first | exact Nat.le_refl _ | simp) hx
      have on0 := Lib.hid on
      replace hc : H0 ≤ w1_.heap.size := by omega
      clear hx hs hb hB hBC hC on
      go_wp2_with fail
      refine (toInt64S_x _ xs1 _ (HR1.out.keep (by go_grown)) (by have := hlen1.out; omega)).mono ?_
      rintro e w2_ ⟨nu1, nB1, nC1, rfl, on, hB, ⟨hBC, hC⟩, hb⟩
      have hx := chain (B := w1_.heap.size) (a := w1_) (by go_grown) (Nat.le_refl _) hb
      have hs := hb.size
      (repeat (first | rw [World.size_alloc] at hs | rw [World.size_drew] at hs))
      replace on0 := Lib.hid (on0.out.keep hx)
      replace hL := chain (B := w.heap.size) (a := w) hL (by first | exact Nat.le_refl _ | simp) hx
      have on1 := Lib.hid on
      replace hc : H0 ≤ w2_.heap.size := by omega
      clear hx hs hb hB hBC hC on
      go_wp2_with fail
      refine (D2.out _ _ _ on0.out.reads on1.out.reads).mono ?_
      rintro e w3_ ⟨Wu0, rfl, of0, hb⟩
      have hx := chain (B := w2_.heap.size) (a := w2_) (by go_grown) (Nat.le_refl _) hb
      have hs := hb.size
      (repeat (first | rw [World.size_alloc] at hs | rw [World.size_drew] at hs))
      replace on0 := Lib.hid (on0.out.keep hx)
      replace on1 := Lib.hid (on1.out.keep hx)
      replace hL := chain (B := w.heap.size) (a := w) hL (by first | exact Nat.le_refl _ | simp) hx
      have HW0 := Lib.hid of0
      replace hc : H0 ≤ w3_.heap.size := by omega
      clear hx hs hb of0
      clear on0 on1
      have hBW : Below w3_.heap.size w3_ w3_ := Below.refl _ _
      obtain ⟨H1, hH1, hcn⟩ : ∃ H, w3_.heap.size ≤ H ∧ H ≤ w3_.heap.size := ⟨_, Nat.le_refl _, Nat.le_refl _⟩
      have hHH1 : H0 ≤ H1 := by omega
      have hHU1 := hcn
      clear hc
      have hc := hcn
      clear hcn
      go_wp2_with fail
      refine (toInt64S_x _ xs0 _ (HR0.out.keep (by go_grown)) (by have := hlen0.out; omega)).mono ?_
      rintro e w4_ ⟨xu0, xB0, xC0, rfl, on, hB, ⟨hBC, hC⟩, hb⟩
      have hx := chain (B := w3_.heap.size) (a := w3_) (by go_grown) (Nat.le_refl _) hb
      have hs := hb.size
      (repeat (first | rw [World.size_alloc] at hs | rw [World.size_drew] at hs))
      replace hL := chain (B := w.heap.size) (a := w) hL (by first | exact Nat.le_refl _ | simp) hx
      replace hBW := chain (B := w3_.heap.size) (a := w3_) hBW (Nat.le_refl _) hx
      (repeat (first | rw [World.size_alloc] at hB | rw [World.size_drew] at hB))
      have hLO0 : H1 ≤ xB0 := by omega
      have hHI0 := hC
      obtain ⟨H2, hH2, hcn⟩ : ∃ H, w4_.heap.size ≤ H ∧ H ≤ w4_.heap.size := ⟨_, Nat.le_refl _, Nat.le_refl _⟩
      have hHH2 : H1 ≤ H2 := by omega
      have hHU2 := hcn
      clear hc
      have hc := hcn
      clear hcn
      clear hx hs hb hB hC
      have ox0 := Lib.hid on
      clear on
      have hBC0 := hBC
      clear hBC
      go_wp2_with fail
      refine (toInt64S_x _ xs1 _ (HR1.out.keep (by go_grown)) (by have := hlen1.out; omega)).mono ?_
      rintro e w5_ ⟨xu1, xB1, xC1, rfl, on, hB, ⟨hBC, hC⟩, hb⟩
      have hx := chain (B := w4_.heap.size) (a := w4_) (by go_grown) (Nat.le_refl _) hb
      have hs := hb.size
      (repeat (first | rw [World.size_alloc] at hs | rw [World.size_drew] at hs))
      replace ox0 := Lib.hid (ox0.out.keep hx)
      replace hL := chain (B := w.heap.size) (a := w) hL (by first | exact Nat.le_refl _ | simp) hx
      replace hBW := chain (B := w3_.heap.size) (a := w3_) hBW (Nat.le_refl _) hx
      (repeat (first | rw [World.size_alloc] at hB | rw [World.size_drew] at hB))
      have hLO1 : H2 ≤ xB1 := by omega
      have hHI1 := hC
      obtain ⟨H3, hH3, hcn⟩ : ∃ H, w5_.heap.size ≤ H ∧ H ≤ w5_.heap.size := ⟨_, Nat.le_refl _, Nat.le_refl _⟩
      have hHH3 : H2 ≤ H3 := by omega
      have hHU3 := hcn
      clear hc
      have hc := hcn
      clear hcn
      clear hx hs hb hB hC
      have ox1 := Lib.hid on
      clear on
      have hBC1 := hBC
      clear hBC
      go_wp2_with fail
      refine (D1.out _ _ _ (ox0.out.keep (by first | go_grown | exact (Below.refl _ _).alloc (Nat.le_refl _) _)).reads (ox1.out.keep (by first | go_grown | exact (Below.refl _ _).alloc (Nat.le_refl _) _)).reads).mono ?_
      rintro e w6_ ⟨Gu0, rfl, of0, hb⟩
      have hx := chain (B := w5_.heap.size) (a := w5_) (by go_grown) (Nat.le_refl _) hb
      have hs := hb.size
      (repeat (first | rw [World.size_alloc] at hs | rw [World.size_drew] at hs))
      replace ox0 := Lib.hid (ox0.out.keep hx)
      replace ox1 := Lib.hid (ox1.out.keep hx)
      replace hL := chain (B := w.heap.size) (a := w) hL (by first | exact Nat.le_refl _ | simp) hx
      replace hBW := chain (B := w3_.heap.size) (a := w3_) hBW (Nat.le_refl _) hx
      (repeat (first | rw [World.size_alloc] at of0 | rw [World.size_drew] at of0))
      obtain ⟨H4, hH4, hcn⟩ : ∃ H, w6_.heap.size ≤ H ∧ H ≤ w6_.heap.size := ⟨_, Nat.le_refl _, Nat.le_refl _⟩
      have hHH4 : H3 ≤ H4 := by omega
      have hco := hc
      have hHU4 := hcn
      clear hc
      have hc := hcn
      clear hcn
      have oG0 := Lib.hid (of0.monoI (B' := H3) (C' := H4) (by omega) (by omega))
      clear of0
      clear hx hs hb hco
      go_wp2_with fail
      refine (eqInt64S_same _ _ l0 _ (oG0.out.keep (by go_grown)).reads (HW0.out.keep (by go_grown))).mono ?_
      rintro e w7_ ⟨rfl, hb⟩
      have hx := chain (B := w6_.heap.size) (a := w6_) (by go_grown) (Nat.le_refl _) hb
      have hs := hb.size
      (repeat (first | rw [World.size_alloc] at hs | rw [World.size_drew] at hs))
      replace ox0 := Lib.hid (ox0.out.keep hx)
      replace ox1 := Lib.hid (ox1.out.keep hx)
      replace oG0 := Lib.hid (oG0.out.keep hx)
      replace hL := chain (B := w.heap.size) (a := w) hL (by first | exact Nat.le_refl _ | simp) hx
      replace hBW := chain (B := w3_.heap.size) (a := w3_) hBW (Nat.le_refl _) hx
      replace hc : H4 ≤ w7_.heap.size := by omega
      clear hx hs hb
      go_wp2_with fail
      refine (toInt64S_x _ xs0 _ (HR0.out.keep (by go_grown)) (by have := hlen0.out; omega)).mono ?_
      rintro e w8_ ⟨yu0, yB0, yC0, rfl, on, hB, ⟨hBC, hC⟩, hb⟩
      have hx := chain (B := w7_.heap.size) (a := w7_) (by go_grown) (Nat.le_refl _) hb
      have hs := hb.size
      (repeat (first | rw [World.size_alloc] at hs | rw [World.size_drew] at hs))
      replace ox0 := Lib.hid (ox0.out.keep hx)
      replace ox1 := Lib.hid (ox1.out.keep hx)
      replace oG0 := Lib.hid (oG0.out.keep hx)
      replace hL := chain (B := w.heap.size) (a := w) hL (by first | exact Nat.le_refl _ | simp) hx
      replace hBW := chain (B := w3_.heap.size) (a := w3_) hBW (Nat.le_refl _) hx
      have oy0 := Lib.hid on
      replace hc : H4 ≤ w8_.heap.size := by omega
      clear hx hs hb hB hBC hC on
      go_wp2_with fail
      refine (eqInt64S_same _ _ xs0 _ (ox0.out.keep (by go_grown)).reads (oy0.out.keep (by go_grown)).reads).mono ?_
      rintro e w9_ ⟨rfl, hb⟩
      have hx := chain (B := w8_.heap.size) (a := w8_) (by go_grown) (Nat.le_refl _) hb
      have hs := hb.size
      (repeat (first | rw [World.size_alloc] at hs | rw [World.size_drew] at hs))
      replace ox0 := Lib.hid (ox0.out.keep hx)
      replace ox1 := Lib.hid (ox1.out.keep hx)
      replace oG0 := Lib.hid (oG0.out.keep hx)
      replace oy0 := Lib.hid (oy0.out.keep hx)
      replace hL := chain (B := w.heap.size) (a := w) hL (by first | exact Nat.le_refl _ | simp) hx
      replace hBW := chain (B := w3_.heap.size) (a := w3_) hBW (Nat.le_refl _) hx
      replace hc : H4 ≤ w9_.heap.size := by omega
      clear hx hs hb
      clear oy0
      go_wp2_with fail
      refine (toInt64S_x _ xs1 _ (HR1.out.keep (by go_grown)) (by have := hlen1.out; omega)).mono ?_
      rintro e w10_ ⟨yu1, yB1, yC1, rfl, on, hB, ⟨hBC, hC⟩, hb⟩
      have hx := chain (B := w9_.heap.size) (a := w9_) (by go_grown) (Nat.le_refl _) hb
      have hs := hb.size
      (repeat (first | rw [World.size_alloc] at hs | rw [World.size_drew] at hs))
      replace ox0 := Lib.hid (ox0.out.keep hx)
      replace ox1 := Lib.hid (ox1.out.keep hx)
      replace oG0 := Lib.hid (oG0.out.keep hx)
      replace hL := chain (B := w.heap.size) (a := w) hL (by first | exact Nat.le_refl _ | simp) hx
      replace hBW := chain (B := w3_.heap.size) (a := w3_) hBW (Nat.le_refl _) hx
      have oy1 := Lib.hid on
      replace hc : H4 ≤ w10_.heap.size := by omega
      clear hx hs hb hB hBC hC on
      go_wp2_with fail
      refine (eqInt64S_same _ _ xs1 _ (ox1.out.keep (by go_grown)).reads (oy1.out.keep (by go_grown)).reads).mono ?_
      rintro e w11_ ⟨rfl, hb⟩
      have hx := chain (B := w10_.heap.size) (a := w10_) (by go_grown) (Nat.le_refl _) hb
      have hs := hb.size
      (repeat (first | rw [World.size_alloc] at hs | rw [World.size_drew] at hs))
      replace ox0 := Lib.hid (ox0.out.keep hx)
      replace ox1 := Lib.hid (ox1.out.keep hx)
      replace oG0 := Lib.hid (oG0.out.keep hx)
      replace oy1 := Lib.hid (oy1.out.keep hx)
      replace hL := chain (B := w.heap.size) (a := w) hL (by first | exact Nat.le_refl _ | simp) hx
      replace hBW := chain (B := w3_.heap.size) (a := w3_) hBW (Nat.le_refl _) hx
      replace hc : H4 ≤ w11_.heap.size := by omega
      clear hx hs hb
      clear oy1
      go_wp2_with fail
      refine (markIn_any _ _ _ xs0 (1) _ ox0.out (by have := hlen0.out; omega) (by omega) (by have := hlen0.out; have := hlen1.out; omega)).mono ?_
      rintro e w12_ ⟨rfl, om, oo⟩
      have hs := oo.size
      (repeat (first | rw [World.size_alloc] at hs | rw [World.size_drew] at hs))
      replace ox1 := Lib.hid (ox1.out.only oo (by omega))
      replace oG0 := Lib.hid (oG0.out.only oo (by omega))
      replace hL := Only.under hL oo (by omega) (by have := hL.size; omega)
      replace hBW := Only.under hBW oo (by omega) (by have := hBW.size; omega)
      replace hc : H4 ≤ w12_.heap.size := by omega
      clear ox0
      clear om oo hs
      go_wp2_with fail
      refine (markIn_any _ _ _ xs1 (1 + (xs0.length : Int)) _ ox1.out (by have := hlen1.out; omega) (by omega) (by have := hlen0.out; have := hlen1.out; omega)).mono ?_
      rintro e w13_ ⟨rfl, om, oo⟩
      have hs := oo.size
      (repeat (first | rw [World.size_alloc] at hs | rw [World.size_drew] at hs))
      replace oG0 := Lib.hid (oG0.out.only oo (by omega))
      replace hL := Only.under hL oo (by omega) (by have := hL.size; omega)
      replace hBW := Only.under hBW oo (by omega) (by have := hBW.size; omega)
      replace hc : H4 ≤ w13_.heap.size := by omega
      clear ox1
      clear om oo hs
      have hneg : ¬ (1 + (xs0.length : Int) + (xs1.length : Int)) < 0 := by have := hlen0.out; have := hlen1.out; omega
      go_wp2_with fail
      refine (eqInt64S_same _ _ l0 _ (oG0.out.keep (by go_grown)).reads (HW0.out.keep (by go_grown))).mono ?_
      rintro e w14_ ⟨rfl, hb⟩
      have hx := chain (B := w13_.heap.size) (a := w13_) (by go_grown) (Nat.le_refl _) hb
      have hs := hb.size
      (repeat (first | rw [World.size_alloc] at hs | rw [World.size_drew] at hs))
      replace oG0 := Lib.hid (oG0.out.keep hx)
      replace hL := chain (B := w.heap.size) (a := w) hL (by first | exact Nat.le_refl _ | simp) hx
      replace hBW := chain (B := w3_.heap.size) (a := w3_) hBW (Nat.le_refl _) hx
      replace hc : H4 ≤ w14_.heap.size := by omega
      clear hx hs hb
      go_wp2_with fail
      refine (markIn_any _ _ _ l0 (1) _ oG0.out (by have := HLEN0.out; omega) (by omega) (by have := HLEN0.out; omega)).mono ?_
      rintro e w15_ ⟨rfl, om, oo⟩
      have hs := oo.size
      (repeat (first | rw [World.size_alloc] at hs | rw [World.size_drew] at hs))
      replace hL := Only.under hL oo (by omega) (by have := hL.size; omega)
      replace hBW := Only.under hBW oo (by omega) (by have := hBW.size; omega)
      replace hc : H4 ≤ w15_.heap.size := by omega
      clear oG0
      have oM0 := Lib.hid om
      clear om oo hs
      go_wp2_with fail
      have hqa0 : ¬ (1 + (l0.length : Int)) < 0 := by have := HLEN0.out; omega
      refine (heldInt64S_any _ l0.length (1) _ (oM0.out.keep (by go_grown)).reads (by have := HLEN0.out; omega) (by omega) (by have := HLEN0.out; omega)).mono ?_
      rintro e w16_ ⟨rfl, hb⟩
      have hx := chain (B := w15_.heap.size) (a := w15_) (by go_grown) (Nat.le_refl _) hb
      have hs := hb.size
      (repeat (first | rw [World.size_alloc] at hs | rw [World.size_drew] at hs))
      replace oM0 := Lib.hid (oM0.out.keep hx)
      replace hL := chain (B := w.heap.size) (a := w) hL (by first | exact Nat.le_refl _ | simp) hx
      replace hBW := chain (B := w3_.heap.size) (a := w3_) hBW (Nat.le_refl _) hx
      replace hc : H4 ≤ w16_.heap.size := by omega
      clear hx hs hb
      clear hqa0
      go_wp2_with fail
      refine (toInt64S_x _ xs0 _ (HR0.out.keep (by go_grown)) (by have := hlen0.out; omega)).mono ?_
      rintro e w17_ ⟨hu0, hB0, hC0, rfl, on, hB, ⟨hBC, hC⟩, hb⟩
      have hx := chain (B := w16_.heap.size) (a := w16_) (by go_grown) (Nat.le_refl _) hb
      have hs := hb.size
      (repeat (first | rw [World.size_alloc] at hs | rw [World.size_drew] at hs))
      replace oM0 := Lib.hid (oM0.out.keep hx)
      replace hL := chain (B := w.heap.size) (a := w) hL (by first | exact Nat.le_refl _ | simp) hx
      replace hBW := chain (B := w3_.heap.size) (a := w3_) hBW (Nat.le_refl _) hx
      have oh0 := Lib.hid on
      replace hc : H4 ≤ w17_.heap.size := by omega
      clear hx hs hb hB hBC hC on
      go_wp2_with fail
      refine (toInt64S_x _ xs1 _ (HR1.out.keep (by go_grown)) (by have := hlen1.out; omega)).mono ?_
      rintro e w18_ ⟨hu1, hB1, hC1, rfl, on, hB, ⟨hBC, hC⟩, hb⟩
      have hx := chain (B := w17_.heap.size) (a := w17_) (by go_grown) (Nat.le_refl _) hb
      have hs := hb.size
      (repeat (first | rw [World.size_alloc] at hs | rw [World.size_drew] at hs))
      replace oM0 := Lib.hid (oM0.out.keep hx)
      replace oh0 := Lib.hid (oh0.out.keep hx)
      replace hL := chain (B := w.heap.size) (a := w) hL (by first | exact Nat.le_refl _ | simp) hx
      replace hBW := chain (B := w3_.heap.size) (a := w3_) hBW (Nat.le_refl _) hx
      have oh1 := Lib.hid on
      replace hc : H4 ≤ w18_.heap.size := by omega
      clear hx hs hb hB hBC hC on
      go_wp2_with fail
      refine (D1.out _ _ _ oh0.out.reads oh1.out.reads).mono ?_
      rintro e w19_ ⟨Zu0, rfl, of0, hb⟩
      have hx := chain (B := w18_.heap.size) (a := w18_) (by go_grown) (Nat.le_refl _) hb
      have hs := hb.size
      (repeat (first | rw [World.size_alloc] at hs | rw [World.size_drew] at hs))
      replace oM0 := Lib.hid (oM0.out.keep hx)
      replace oh0 := Lib.hid (oh0.out.keep hx)
      replace oh1 := Lib.hid (oh1.out.keep hx)
      replace hL := chain (B := w.heap.size) (a := w) hL (by first | exact Nat.le_refl _ | simp) hx
      replace hBW := chain (B := w3_.heap.size) (a := w3_) hBW (Nat.le_refl _) hx
      have oZ0 := Lib.hid of0
      clear of0
      replace hc : H4 ≤ w19_.heap.size := by omega
      clear hx hs hb
      clear oh0 oh1
      go_wp2_with fail
      refine (eqInt64S_same _ _ l0 _ (oZ0.out.keep (by go_grown)).reads (HW0.out.keep (by go_grown))).mono ?_
      rintro e w20_ ⟨rfl, hb⟩
      have hx := chain (B := w19_.heap.size) (a := w19_) (by go_grown) (Nat.le_refl _) hb
      have hs := hb.size
      (repeat (first | rw [World.size_alloc] at hs | rw [World.size_drew] at hs))
      replace oM0 := Lib.hid (oM0.out.keep hx)
      replace oZ0 := Lib.hid (oZ0.out.keep hx)
      replace hL := chain (B := w.heap.size) (a := w) hL (by first | exact Nat.le_refl _ | simp) hx
      replace hBW := chain (B := w3_.heap.size) (a := w3_) hBW (Nat.le_refl _) hx
      replace hc : H4 ≤ w20_.heap.size := by omega
      clear hx hs hb
      clear oZ0
      go_wp2_with fail
      have hqb0 : ¬ (1 + (l0.length : Int)) < 0 := by have := HLEN0.out; omega
      refine (heldInt64S_any _ l0.length (1) _ (oM0.out.keep (by go_grown)).reads (by have := HLEN0.out; omega) (by omega) (by have := HLEN0.out; omega)).mono ?_
      rintro e w21_ ⟨rfl, hb⟩
      have hx := chain (B := w20_.heap.size) (a := w20_) (by go_grown) (Nat.le_refl _) hb
      have hs := hb.size
      (repeat (first | rw [World.size_alloc] at hs | rw [World.size_drew] at hs))
      replace oM0 := Lib.hid (oM0.out.keep hx)
      replace hL := chain (B := w.heap.size) (a := w) hL (by first | exact Nat.le_refl _ | simp) hx
      replace hBW := chain (B := w3_.heap.size) (a := w3_) hBW (Nat.le_refl _) hx
      replace hc : H4 ≤ w21_.heap.size := by omega
      clear hx hs hb
      go_wp2_with fail
      go_ret
      exact ⟨rfl, by first | assumption | go_grown⟩

end Go.Proofs.Ytibfenkaoaclfaa
