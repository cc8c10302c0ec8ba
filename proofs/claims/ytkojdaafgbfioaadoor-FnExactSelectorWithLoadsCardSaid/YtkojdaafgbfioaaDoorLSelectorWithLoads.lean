/- The walk of FnExactSelectorWithLoads. -/
import Derived.Test.YtkojdaafgbfioaaDoorSws
import Derived.Test.YtkojdaafgbfioaaDoorLkS
import Derived.Test.YtkojdaafgbfioaaDoorRowRd
import Derived.Test.YtkojdaafgbfioaaDoorTool
namespace Go.Proofs.YtkojdaafgbfioaaDoor
open Go.RowKit
set_option linter.unusedVariables false

set_option maxRecDepth 100000 in
set_option maxHeartbeats 8000000 in
theorem walkFnExactSelectorWithLoads (a0 : Option Addr) (len0 cap0 : Nat) (zs0 : List Int) (w : World) (hrow0 : IsRow .i64 w a0 len0 cap0 zs0) :
    Calls Tryd.prog 3 #[.slice a0 len0 cap0] w fun e w' => e = .returned (.bool true) ∧ Below w.heap.size w w' := by
  have ha0 := hrow0.reads
  have hl0 : (zs0.take len0).length = len0 := by
    rcases hrow0 with ⟨rfl, rfl, rfl, rfl⟩ | ⟨x, rfl, h1, h2, h3, _, _⟩
    · simp
    · simp; omega
  clear hrow0
  obtain ⟨xs0, hxs0⟩ : ∃ l, zs0.take len0 = l := ⟨_, rfl⟩
  rw [hxs0] at ha0 hl0
  clear hxs0
  subst hl0
  by_cases hbig0 : (1048576 : Int) < (xs0.length : Int)
  · clear ha0
    go_enter Tryd.func3, Tryd.ntmps3
    go_wp2_with (fail)
    go_ret
    exact ⟨rfl, by first | exact Below.refl _ _ | go_grown⟩
  · have hlen0 : Hid ((xs0.length : Int) ≤ 1048576) := by unfold Hid; omega
    have HR0 := Lib.hid ha0
    clear ha0
    have hL0 : Below w.heap.size w w := Below.refl _ _
    obtain ⟨c0, hr_c0⟩ : ∃ x : ByteArray, resSelectorWithLoads_0 xs0 = x := ⟨_, rfl⟩
    obtain ⟨c1, hr_c1⟩ : ∃ x : Int, resSelectorWithLoads_1 xs0 = x := ⟨_, rfl⟩
    have D1 : Hid (∀ (u_0 : Value) (w : World), Reads w u_0 xs0 → Calls Tryd.prog 7 #[u_0] w fun e w' => e = .returned (.tuple #[.string c0, .int .i64 c1]) ∧ Below w.heap.size w w') := fun u_0 w h0 => by subst hr_c0 hr_c1; exact iSelectorWithLoads_any u_0 xs0 w h0
    have D2 : Hid (∀ (u_0 : Value) (w : World), Reads w u_0 xs0 → Calls Tryd.prog 5 #[u_0] w fun e w' => e = .returned (.tuple #[.string c0, .int .i64 c1]) ∧ Below w.heap.size w w') := fun u_0 w h0 => by subst hr_c0 hr_c1; exact sSelectorWithLoads_any u_0 xs0 w h0
    clear hr_c0 hr_c1
    have hL := hL0
    clear hL0
    obtain ⟨H0, hH0, hc⟩ : ∃ H, w.heap.size + 0 ≤ H ∧ H ≤ w.heap.size + 0 := ⟨_, Nat.le_refl _, Nat.le_refl _⟩
    have hHU0 := hc
    go_enter Tryd.func3, Tryd.ntmps3
    go_wp2_with fail
    refine (toInt64S_x _ xs0 _ (HR0.out.keep (by go_grown)) (by have := hlen0.out; omega)).mono ?_
    rintro e w1_ ⟨nu0, nB0, nC0, rfl, on, hB, ⟨hBC, hC⟩, hb⟩
    have hx := chain (B := w.heap.size) (a := w) (by go_grown) (Nat.le_refl _) hb
    have hs := hb.size
    (repeat (first | rw [World.size_alloc] at hs | rw [World.size_drew] at hs))
    replace hL := chain (B := w.heap.size) (a := w) hL (by first | exact Nat.le_refl _ | simp) hx
    have on0 := Lib.hid on
    replace hc : H0 ≤ w1_.heap.size := by omega
    clear hx hs hb hB hBC hC on
    go_wp2_with fail
    refine (D2.out _ _ on0.out.reads).mono ?_
    rintro e w2_ ⟨rfl, hb⟩
    have hx := chain (B := w1_.heap.size) (a := w1_) (by go_grown) (Nat.le_refl _) hb
    have hs := hb.size
    (repeat (first | rw [World.size_alloc] at hs | rw [World.size_drew] at hs))
    replace on0 := Lib.hid (on0.out.keep hx)
    replace hL := chain (B := w.heap.size) (a := w) hL (by first | exact Nat.le_refl _ | simp) hx
    replace hc : H0 ≤ w2_.heap.size := by omega
    clear hx hs hb
    clear on0
    obtain ⟨H1, hH1, hcn⟩ : ∃ H, w2_.heap.size ≤ H ∧ H ≤ w2_.heap.size := ⟨_, Nat.le_refl _, Nat.le_refl _⟩
    have hHH1 : H0 ≤ H1 := by omega
    have hHU1 := hcn
    clear hc
    have hc := hcn
    clear hcn
    go_wp2_with fail
    refine (toInt64S_x _ xs0 _ (HR0.out.keep (by go_grown)) (by have := hlen0.out; omega)).mono ?_
    rintro e w3_ ⟨xu0, xB0, xC0, rfl, on, hB, ⟨hBC, hC⟩, hb⟩
    have hx := chain (B := w2_.heap.size) (a := w2_) (by go_grown) (Nat.le_refl _) hb
    have hs := hb.size
    (repeat (first | rw [World.size_alloc] at hs | rw [World.size_drew] at hs))
    replace hL := chain (B := w.heap.size) (a := w) hL (by first | exact Nat.le_refl _ | simp) hx
    (repeat (first | rw [World.size_alloc] at hB | rw [World.size_drew] at hB))
    have hLO0 : H1 ≤ xB0 := by omega
    have hHI0 := hC
    obtain ⟨H2, hH2, hcn⟩ : ∃ H, w3_.heap.size ≤ H ∧ H ≤ w3_.heap.size := ⟨_, Nat.le_refl _, Nat.le_refl _⟩
    have hHH2 : H1 ≤ H2 := by omega
    have hHU2 := hcn
    clear hc
    have hc := hcn
    clear hcn
    clear hx hs hb hB hC
    have ox0 := Lib.hid on
    clear on
    have hBC0 := hBC
    clear hBC
    go_wp2_with fail
    refine (D1.out _ _ (ox0.out.keep (by first | go_grown | exact (Below.refl _ _).alloc (Nat.le_refl _) _)).reads).mono ?_
    rintro e w4_ ⟨rfl, hb⟩
    have hx := chain (B := w3_.heap.size) (a := w3_) (by go_grown) (Nat.le_refl _) hb
    have hs := hb.size
    (repeat (first | rw [World.size_alloc] at hs | rw [World.size_drew] at hs))
    replace ox0 := Lib.hid (ox0.out.keep hx)
    replace hL := chain (B := w.heap.size) (a := w) hL (by first | exact Nat.le_refl _ | simp) hx
    replace hc : H2 ≤ w4_.heap.size := by omega
    clear hx hs hb
    go_wp2_with fail
    refine (toInt64S_x _ xs0 _ (HR0.out.keep (by go_grown)) (by have := hlen0.out; omega)).mono ?_
    rintro e w5_ ⟨yu0, yB0, yC0, rfl, on, hB, ⟨hBC, hC⟩, hb⟩
    have hx := chain (B := w4_.heap.size) (a := w4_) (by go_grown) (Nat.le_refl _) hb
    have hs := hb.size
    (repeat (first | rw [World.size_alloc] at hs | rw [World.size_drew] at hs))
    replace ox0 := Lib.hid (ox0.out.keep hx)
    replace hL := chain (B := w.heap.size) (a := w) hL (by first | exact Nat.le_refl _ | simp) hx
    have oy0 := Lib.hid on
    replace hc : H2 ≤ w5_.heap.size := by omega
    clear hx hs hb hB hBC hC on
    go_wp2_with fail
    refine (eqInt64S_same _ _ xs0 _ (ox0.out.keep (by go_grown)).reads (oy0.out.keep (by go_grown)).reads).mono ?_
    rintro e w6_ ⟨rfl, hb⟩
    have hx := chain (B := w5_.heap.size) (a := w5_) (by go_grown) (Nat.le_refl _) hb
    have hs := hb.size
    (repeat (first | rw [World.size_alloc] at hs | rw [World.size_drew] at hs))
    replace ox0 := Lib.hid (ox0.out.keep hx)
    replace oy0 := Lib.hid (oy0.out.keep hx)
    replace hL := chain (B := w.heap.size) (a := w) hL (by first | exact Nat.le_refl _ | simp) hx
    replace hc : H2 ≤ w6_.heap.size := by omega
    clear hx hs hb
    clear oy0
    go_wp2_with fail
    go_ret
    exact ⟨rfl, by first | assumption | go_grown⟩

end Go.Proofs.YtkojdaafgbfioaaDoor
