/- The walk of FnExactPartsOfNumbers. -/
import Derived.Test.YtlcfecccpbeofaaParts
import Derived.Test.YtlcfecccpbeofaaRowRd
namespace Go.Proofs.Ytlcfecccpbeofaa
open Go.RowKit
set_option linter.unusedVariables false

set_option maxRecDepth 100000 in
set_option maxHeartbeats 4000000 in
theorem walkFnExactPartsOfNumbers (x0 : Int) (wx0 : (Lit.int .i64 x0).wf = true) (a1 : Option Addr) (len1 cap1 : Nat) (zs1 : List Int) (w : World) (hrow1 : IsRow .i64 w a1 len1 cap1 zs1) :
    Calls Try.prog 4 #[.int .i64 x0, .slice a1 len1 cap1] w fun e w' => e = .returned (.bool true) ∧ Below w.heap.size w w' := by
  have hR1 := hrow1.reads
  have hl1 : (zs1.take len1).length ≤ len1 ∧ ((zs1.take len1).length = len1) := by
    rcases hrow1 with ⟨rfl, rfl, rfl, rfl⟩ | ⟨x, rfl, h1, h2, h3, _, _⟩
    · simp
    · simp; omega
  clear hrow1
  by_cases hbig1 : 1048576 < len1
  · have hb1 : (1048576 : Int) < (len1 : Int) := by omega
    clear hl1 hR1
    go_enter Try.func4, Try.ntmps4
    go_wp2
    go_ret
    exact ⟨rfl, Below.refl _ _⟩
  · have hb11 : ¬ (1048576 : Int) < (len1 : Int) := by omega
    have hlen1 : Hid ((zs1.take len1).length ≤ 1048576) := by unfold Hid; omega
    obtain ⟨l0, hl_0⟩ : ∃ l, resPartsOfNumbers_0 x0 (zs1.take len1) = l := ⟨_, rfl⟩
    have HLEN0 : Hid (l0.length ≤ 1000) := by rw [← hl_0]; exact lenPartsOfNumbers_0 x0 (zs1.take len1)
    obtain ⟨l1, hl_1⟩ : ∃ l, resPartsOfNumbers_1 x0 (zs1.take len1) = l := ⟨_, rfl⟩
    have HLEN1 : Hid (l1.length ≤ 1000) := by rw [← hl_1]; exact lenPartsOfNumbers_1 x0 (zs1.take len1)
    obtain ⟨c2, hc_2⟩ : ∃ c : Int, resPartsOfNumbers_2 x0 (zs1.take len1) = c := ⟨_, rfl⟩
    have D1 : Hid (∀ (v1 : Value) (w : World), Reads w v1 (zs1.take len1) → Calls Try.prog 14 #[.int .i64 x0, v1] w fun e w' => ∃ u0 u1 M, e = .returned (.tuple #[u0, u1, .int .i64 c2]) ∧ In w' w.heap.size M u0 l0 ∧ In w' M w'.heap.size u1 l1 ∧ w.heap.size ≤ M ∧ M ≤ w'.heap.size ∧ Below w.heap.size w w') := fun v1 w h1 => by subst hl_0 hl_1 hc_2; exact iPartsOfNumbers_any x0 v1 _ w h1
    have D2 : Hid (∀ (v1 : Value) (w : World), Reads w v1 (zs1.take len1) → Calls Try.prog 13 #[.int .i64 x0, v1] w fun e w' => ∃ u0 u1, e = .returned (.tuple #[u0, u1, .int .i64 c2]) ∧ Owns w' w.heap.size u0 l0 ∧ Owns w' w.heap.size u1 l1 ∧ Below w.heap.size w w') := fun v1 w h1 => by subst hl_0 hl_1 hc_2; exact sPartsOfNumbers_any x0 v1 _ w h1
    clear hl_0 hl_1 hc_2 hl1
    generalize zs1.take len1 = xs1 at *
    have HR1 := Lib.hid hR1
    clear hR1
    have hL : Below w.heap.size w w := Below.refl _ _
    obtain ⟨H0, hH0, hc⟩ : ∃ H, w.heap.size ≤ H ∧ H ≤ w.heap.size := ⟨w.heap.size, Nat.le_refl _, Nat.le_refl _⟩
    go_enter Try.func4, Try.ntmps4
    go_wp2_with fail
    refine (toInt64S_any _ xs1 _ (HR1.out.keep (by go_grown)) hlen1.out).mono ?_
    rintro e w1_ ⟨n1, rfl, oo, hb⟩
    have hx := chain (B := w.heap.size) (a := w) (by go_grown) (Nat.le_refl _) hb
    have hs := hx.size
    replace hL := chain (B := w.heap.size) (a := w) hL (Nat.le_refl _) hx
    obtain ⟨H1, hH1, hcn, hn3⟩ : ∃ H, H0 ≤ H ∧ H ≤ w1_.heap.size ∧ w1_.heap.size ≤ H := ⟨w1_.heap.size, by omega, Nat.le_refl _, Nat.le_refl _⟩
    have in1 := In.of (lo := H0) (hi := H1) oo (by (repeat (first | rw [World.size_alloc] | rw [World.size_drew])); omega) hn3
    clear oo hn3
    clear hc
    have hc := hcn
    clear hcn
    clear hx hs hb
    go_wp2_with fail
    refine (D2.out _ _ in1.reads).mono ?_
    rintro e w2_ ⟨W0, W1, rfl, o_0, o_1, hb⟩
    have hx := chain (B := w1_.heap.size) (a := w1_) (by go_grown) (Nat.le_refl _) hb
    have hs := hx.size
    replace in1 := in1.keep hx
    replace hL := chain (B := w.heap.size) (a := w) hL (Nat.le_refl _) hx
    obtain ⟨H2, hH2, hcn, hn3⟩ : ∃ H, H1 ≤ H ∧ H ≤ w2_.heap.size ∧ w2_.heap.size ≤ H := ⟨w2_.heap.size, by omega, Nat.le_refl _, Nat.le_refl _⟩
    have iW0 := In.of (lo := H1) (hi := H2) o_0 (by (repeat (first | rw [World.size_alloc] | rw [World.size_drew])); omega) hn3
    have iW1 := In.of (lo := H1) (hi := H2) o_1 (by (repeat (first | rw [World.size_alloc] | rw [World.size_drew])); omega) hn3
    clear o_0 o_1 hn3
    clear hc
    have hc := hcn
    clear hcn
    clear hx hs hb
    clear in1
    go_wp2_with fail
    refine (toInt64S_any _ xs1 _ (HR1.out.keep (by go_grown)) hlen1.out).mono ?_
    rintro e w3_ ⟨x1, rfl, oo, hb⟩
    have hx := chain (B := w2_.heap.size) (a := w2_) (by go_grown) (Nat.le_refl _) hb
    have hs := hx.size
    replace iW0 := iW0.keep hx
    replace iW1 := iW1.keep hx
    replace hL := chain (B := w.heap.size) (a := w) hL (Nat.le_refl _) hx
    obtain ⟨H3, hH3, hcn, hn3⟩ : ∃ H, H2 ≤ H ∧ H ≤ w3_.heap.size ∧ w3_.heap.size ≤ H := ⟨w3_.heap.size, by omega, Nat.le_refl _, Nat.le_refl _⟩
    have ix1 := In.of (lo := H2) (hi := H3) oo (by (repeat (first | rw [World.size_alloc] | rw [World.size_drew])); omega) hn3
    clear oo hn3
    clear hc
    have hc := hcn
    clear hcn
    clear hx hs hb
    go_wp2_with fail
    refine (D1.out _ _ ix1.reads).mono ?_
    rintro e w4_ ⟨G0, G1, MG, rfl, o_0, o_1, hM1, hM2, hb⟩
    have hx := chain (B := w3_.heap.size) (a := w3_) (by go_grown) (Nat.le_refl _) hb
    have hs := hx.size
    replace iW0 := iW0.keep hx
    replace iW1 := iW1.keep hx
    replace ix1 := ix1.keep hx
    replace hL := chain (B := w.heap.size) (a := w) hL (Nat.le_refl _) hx
    (repeat (first | rw [World.size_alloc] at hM1 | rw [World.size_drew] at hM1))
    obtain ⟨H4, hH4, hcn, hn3⟩ : ∃ H, MG ≤ H ∧ H ≤ w4_.heap.size ∧ w4_.heap.size ≤ H := ⟨w4_.heap.size, by omega, Nat.le_refl _, Nat.le_refl _⟩
    have hMG : H3 ≤ MG := by omega
    have iG0 := In.wide (lo' := H3) (hi' := MG) o_0 (by (repeat (first | rw [World.size_alloc] | rw [World.size_drew])); omega) (Nat.le_refl _)
    have iG1 := In.wide (lo' := MG) (hi' := H4) o_1 (Nat.le_refl _) hn3
    clear o_0 o_1 hn3 hM1 hM2 hc
    have hc := hcn
    clear hcn hx hs hb
    go_wp2_with fail
    refine (eqInt64S_same _ _ l0 _ iG0.reads iW0.reads).mono ?_
    rintro e w5_ ⟨rfl, hb⟩
    have hx := chain (B := w4_.heap.size) (a := w4_) (by go_grown) (Nat.le_refl _) hb
    have hs := hx.size
    replace iW0 := iW0.keep hx
    replace iW1 := iW1.keep hx
    replace ix1 := ix1.keep hx
    replace iG0 := iG0.keep hx
    replace iG1 := iG1.keep hx
    replace hL := chain (B := w.heap.size) (a := w) hL (Nat.le_refl _) hx
    replace hc : H4 ≤ w5_.heap.size := by omega
    clear hx hs hb
    go_wp2_with fail
    refine (eqInt64S_same _ _ l1 _ iG1.reads iW1.reads).mono ?_
    rintro e w6_ ⟨rfl, hb⟩
    have hx := chain (B := w5_.heap.size) (a := w5_) (by go_grown) (Nat.le_refl _) hb
    have hs := hx.size
    replace iW0 := iW0.keep hx
    replace iW1 := iW1.keep hx
    replace ix1 := ix1.keep hx
    replace iG0 := iG0.keep hx
    replace iG1 := iG1.keep hx
    replace hL := chain (B := w.heap.size) (a := w) hL (Nat.le_refl _) hx
    replace hc : H4 ≤ w6_.heap.size := by omega
    clear hx hs hb
    go_wp2_with fail
    refine (toInt64S_any _ xs1 _ (HR1.out.keep (by go_grown)) hlen1.out).mono ?_
    rintro e w7_ ⟨y1, rfl, oo, hb⟩
    have hx := chain (B := w6_.heap.size) (a := w6_) (by go_grown) (Nat.le_refl _) hb
    have hs := hx.size
    replace iW0 := iW0.keep hx
    replace iW1 := iW1.keep hx
    replace ix1 := ix1.keep hx
    replace iG0 := iG0.keep hx
    replace iG1 := iG1.keep hx
    replace hL := chain (B := w.heap.size) (a := w) hL (Nat.le_refl _) hx
    obtain ⟨H5, hH5, hcn, hn3⟩ : ∃ H, H4 ≤ H ∧ H ≤ w7_.heap.size ∧ w7_.heap.size ≤ H := ⟨w7_.heap.size, by omega, Nat.le_refl _, Nat.le_refl _⟩
    have iy1 := In.of (lo := H4) (hi := H5) oo (by (repeat (first | rw [World.size_alloc] | rw [World.size_drew])); omega) hn3
    clear oo hn3
    clear hc
    have hc := hcn
    clear hcn
    clear hx hs hb
    go_wp2_with fail
    refine (eqInt64S_same _ _ xs1 _ ix1.reads iy1.reads).mono ?_
    rintro e w8_ ⟨rfl, hb⟩
    have hx := chain (B := w7_.heap.size) (a := w7_) (by go_grown) (Nat.le_refl _) hb
    have hs := hx.size
    replace iW0 := iW0.keep hx
    replace iW1 := iW1.keep hx
    replace ix1 := ix1.keep hx
    replace iG0 := iG0.keep hx
    replace iG1 := iG1.keep hx
    replace iy1 := iy1.keep hx
    replace hL := chain (B := w.heap.size) (a := w) hL (Nat.le_refl _) hx
    replace hc : H5 ≤ w8_.heap.size := by omega
    clear hx hs hb
    clear iy1
    go_wp2_with fail
    refine (markIn_any _ _ _ _ 1 _ ix1 hlen1.out (by omega) (by omega)).mono ?_
    rintro e w9_ ⟨rfl, im, oo⟩
    have hs := oo.size
    replace iW0 := iW0.only oo (by omega)
    replace iW1 := iW1.only oo (by omega)
    replace iG0 := iG0.only oo (by omega)
    replace iG1 := iG1.only oo (by omega)
    replace hL := hL.trans ((oo.below (by omega)).mono (by have := hH0; omega))
    replace hc : H5 ≤ w9_.heap.size := by omega
    clear oo hs ix1
    clear im
    have hneg : ¬ (1 + (xs1.length : Int)) < 0 := by omega
    go_wp2_with fail
    refine (eqInt64S_same _ _ l0 _ iG0.reads iW0.reads).mono ?_
    rintro e w10_ ⟨rfl, hb⟩
    have hx := chain (B := w9_.heap.size) (a := w9_) (by go_grown) (Nat.le_refl _) hb
    have hs := hx.size
    replace iW0 := iW0.keep hx
    replace iW1 := iW1.keep hx
    replace iG0 := iG0.keep hx
    replace iG1 := iG1.keep hx
    replace hL := chain (B := w.heap.size) (a := w) hL (Nat.le_refl _) hx
    replace hc : H5 ≤ w10_.heap.size := by omega
    clear hx hs hb
    go_wp2_with fail
    refine (eqInt64S_same _ _ l1 _ iG1.reads iW1.reads).mono ?_
    rintro e w11_ ⟨rfl, hb⟩
    have hx := chain (B := w10_.heap.size) (a := w10_) (by go_grown) (Nat.le_refl _) hb
    have hs := hx.size
    replace iW0 := iW0.keep hx
    replace iW1 := iW1.keep hx
    replace iG0 := iG0.keep hx
    replace iG1 := iG1.keep hx
    replace hL := chain (B := w.heap.size) (a := w) hL (Nat.le_refl _) hx
    replace hc : H5 ≤ w11_.heap.size := by omega
    clear hx hs hb
    go_wp2_with fail
    refine (markIn_any _ _ _ _ 1 _ iG0 (by have := HLEN0.out; omega) (by omega) (by have := HLEN0.out; have := HLEN1.out; omega)).mono ?_
    rintro e w12_ ⟨rfl, im, oo⟩
    have hs := oo.size
    replace iW0 := iW0.only oo (by omega)
    replace iW1 := iW1.only oo (by omega)
    replace iG1 := iG1.only oo (by omega)
    replace hL := hL.trans ((oo.below (by omega)).mono (by have := hH0; omega))
    replace hc : H5 ≤ w12_.heap.size := by omega
    clear oo hs iG0
    have iM0 := im
    clear im
    go_wp2_with fail
    refine (markIn_any _ _ _ _ (1 + (l0.length : Int)) _ iG1 (by have := HLEN1.out; omega) (by omega) (by have := HLEN0.out; have := HLEN1.out; omega)).mono ?_
    rintro e w13_ ⟨rfl, im, oo⟩
    have hs := oo.size
    replace iW0 := iW0.only oo (by omega)
    replace iW1 := iW1.only oo (by omega)
    replace iM0 := iM0.only oo (by omega)
    replace hL := hL.trans ((oo.below (by omega)).mono (by have := hH0; omega))
    replace hc : H5 ≤ w13_.heap.size := by omega
    clear oo hs iG1
    have iM1 := im
    clear im
    go_wp2_with fail
    have hq0 : ¬ (1 + (l0.length : Int)) < 0 := by omega
    refine (heldInt64S_any _ l0.length 1 _ iM0.reads (by have := HLEN0.out; omega) (by omega) (by have := HLEN0.out; have := HLEN1.out; omega)).mono ?_
    rintro e w14_ ⟨rfl, hb⟩
    have hx := chain (B := w13_.heap.size) (a := w13_) (by go_grown) (Nat.le_refl _) hb
    have hs := hx.size
    replace iW0 := iW0.keep hx
    replace iW1 := iW1.keep hx
    replace iM0 := iM0.keep hx
    replace iM1 := iM1.keep hx
    replace hL := chain (B := w.heap.size) (a := w) hL (Nat.le_refl _) hx
    replace hc : H5 ≤ w14_.heap.size := by omega
    clear hx hs hb
    go_wp2_with fail
    have hq1 : ¬ (1 + (l0.length : Int) + (l1.length : Int)) < 0 := by omega
    refine (heldInt64S_any _ l1.length (1 + (l0.length : Int)) _ iM1.reads (by have := HLEN1.out; omega) (by omega) (by have := HLEN0.out; have := HLEN1.out; omega)).mono ?_
    rintro e w15_ ⟨rfl, hb⟩
    have hx := chain (B := w14_.heap.size) (a := w14_) (by go_grown) (Nat.le_refl _) hb
    have hs := hx.size
    replace iW0 := iW0.keep hx
    replace iW1 := iW1.keep hx
    replace iM0 := iM0.keep hx
    replace iM1 := iM1.keep hx
    replace hL := chain (B := w.heap.size) (a := w) hL (Nat.le_refl _) hx
    replace hc : H5 ≤ w15_.heap.size := by omega
    clear hx hs hb
    go_wp2_with fail
    refine (toInt64S_any _ xs1 _ (HR1.out.keep (by go_grown)) hlen1.out).mono ?_
    rintro e w16_ ⟨h1, rfl, oo, hb⟩
    have hx := chain (B := w15_.heap.size) (a := w15_) (by go_grown) (Nat.le_refl _) hb
    have hs := hx.size
    replace iW0 := iW0.keep hx
    replace iW1 := iW1.keep hx
    replace iM0 := iM0.keep hx
    replace iM1 := iM1.keep hx
    replace hL := chain (B := w.heap.size) (a := w) hL (Nat.le_refl _) hx
    obtain ⟨H6, hH6, hcn, hn3⟩ : ∃ H, H5 ≤ H ∧ H ≤ w16_.heap.size ∧ w16_.heap.size ≤ H := ⟨w16_.heap.size, by omega, Nat.le_refl _, Nat.le_refl _⟩
    have ih1 := In.of (lo := H5) (hi := H6) oo (by (repeat (first | rw [World.size_alloc] | rw [World.size_drew])); omega) hn3
    clear oo hn3
    clear hc
    have hc := hcn
    clear hcn
    clear hx hs hb
    go_wp2_with fail
    refine (D1.out _ _ ih1.reads).mono ?_
    rintro e w17_ ⟨Z0, Z1, MZ, rfl, o_0, o_1, hM1, hM2, hb⟩
    have hx := chain (B := w16_.heap.size) (a := w16_) (by go_grown) (Nat.le_refl _) hb
    have hs := hx.size
    replace iW0 := iW0.keep hx
    replace iW1 := iW1.keep hx
    replace iM0 := iM0.keep hx
    replace iM1 := iM1.keep hx
    replace ih1 := ih1.keep hx
    replace hL := chain (B := w.heap.size) (a := w) hL (Nat.le_refl _) hx
    (repeat (first | rw [World.size_alloc] at hM1 | rw [World.size_drew] at hM1))
    obtain ⟨H7, hH7, hcn, hn3⟩ : ∃ H, MZ ≤ H ∧ H ≤ w17_.heap.size ∧ w17_.heap.size ≤ H := ⟨w17_.heap.size, by omega, Nat.le_refl _, Nat.le_refl _⟩
    have hMZ : H6 ≤ MZ := by omega
    have iZ0 := In.wide (lo' := H6) (hi' := MZ) o_0 (by (repeat (first | rw [World.size_alloc] | rw [World.size_drew])); omega) (Nat.le_refl _)
    have iZ1 := In.wide (lo' := MZ) (hi' := H7) o_1 (Nat.le_refl _) hn3
    clear o_0 o_1 hn3 hM1 hM2 hc
    have hc := hcn
    clear hcn hx hs hb
    go_wp2_with fail
    refine (eqInt64S_same _ _ l0 _ iZ0.reads iW0.reads).mono ?_
    rintro e w18_ ⟨rfl, hb⟩
    have hx := chain (B := w17_.heap.size) (a := w17_) (by go_grown) (Nat.le_refl _) hb
    have hs := hx.size
    replace iW0 := iW0.keep hx
    replace iW1 := iW1.keep hx
    replace iM0 := iM0.keep hx
    replace iM1 := iM1.keep hx
    replace ih1 := ih1.keep hx
    replace iZ0 := iZ0.keep hx
    replace iZ1 := iZ1.keep hx
    replace hL := chain (B := w.heap.size) (a := w) hL (Nat.le_refl _) hx
    replace hc : H7 ≤ w18_.heap.size := by omega
    clear hx hs hb
    go_wp2_with fail
    refine (eqInt64S_same _ _ l1 _ iZ1.reads iW1.reads).mono ?_
    rintro e w19_ ⟨rfl, hb⟩
    have hx := chain (B := w18_.heap.size) (a := w18_) (by go_grown) (Nat.le_refl _) hb
    have hs := hx.size
    replace iW0 := iW0.keep hx
    replace iW1 := iW1.keep hx
    replace iM0 := iM0.keep hx
    replace iM1 := iM1.keep hx
    replace ih1 := ih1.keep hx
    replace iZ0 := iZ0.keep hx
    replace iZ1 := iZ1.keep hx
    replace hL := chain (B := w.heap.size) (a := w) hL (Nat.le_refl _) hx
    replace hc : H7 ≤ w19_.heap.size := by omega
    clear hx hs hb
    clear ih1
    clear hq0
    clear hq1
    go_wp2_with fail
    have hq0 : ¬ (1 + (l0.length : Int)) < 0 := by omega
    refine (heldInt64S_any _ l0.length 1 _ iM0.reads (by have := HLEN0.out; omega) (by omega) (by have := HLEN0.out; have := HLEN1.out; omega)).mono ?_
    rintro e w20_ ⟨rfl, hb⟩
    have hx := chain (B := w19_.heap.size) (a := w19_) (by go_grown) (Nat.le_refl _) hb
    have hs := hx.size
    replace iW0 := iW0.keep hx
    replace iW1 := iW1.keep hx
    replace iM0 := iM0.keep hx
    replace iM1 := iM1.keep hx
    replace iZ0 := iZ0.keep hx
    replace iZ1 := iZ1.keep hx
    replace hL := chain (B := w.heap.size) (a := w) hL (Nat.le_refl _) hx
    replace hc : H7 ≤ w20_.heap.size := by omega
    clear hx hs hb
    go_wp2_with fail
    have hq1 : ¬ (1 + (l0.length : Int) + (l1.length : Int)) < 0 := by omega
    refine (heldInt64S_any _ l1.length (1 + (l0.length : Int)) _ iM1.reads (by have := HLEN1.out; omega) (by omega) (by have := HLEN0.out; have := HLEN1.out; omega)).mono ?_
    rintro e w21_ ⟨rfl, hb⟩
    have hx := chain (B := w20_.heap.size) (a := w20_) (by go_grown) (Nat.le_refl _) hb
    have hs := hx.size
    replace iW0 := iW0.keep hx
    replace iW1 := iW1.keep hx
    replace iM0 := iM0.keep hx
    replace iM1 := iM1.keep hx
    replace iZ0 := iZ0.keep hx
    replace iZ1 := iZ1.keep hx
    replace hL := chain (B := w.heap.size) (a := w) hL (Nat.le_refl _) hx
    replace hc : H7 ≤ w21_.heap.size := by omega
    clear hx hs hb
    go_wp2_with fail
    go_ret
    exact ⟨rfl, by first | assumption | go_grown⟩

end Go.Proofs.Ytlcfecccpbeofaa
