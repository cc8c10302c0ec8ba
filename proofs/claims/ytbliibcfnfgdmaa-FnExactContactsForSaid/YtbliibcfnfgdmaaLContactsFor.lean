/- The walk of FnExactContactsFor. -/
import Derived.Test.YtbliibcfnfgdmaaCtF
import Derived.Test.YtbliibcfnfgdmaaLkS
import Derived.Test.YtbliibcfnfgdmaaRowRd
import Derived.Test.YtbliibcfnfgdmaaTool
namespace Go.Proofs.Ytbliibcfnfgdmaa
open Go.RowKit
set_option linter.unusedVariables false

set_option maxRecDepth 100000 in
set_option maxHeartbeats 8000000 in
theorem walkFnExactContactsFor (x0 : Int) (wx0 : (Lit.int .i64 x0).wf = true) (s1 : ByteArray) (hs1 : s1.size ≤ maxLen) (a2 : Option Addr) (len2 cap2 : Nat) (zs2 : List Int) (w : World) (hrow2 : IsRow .i64 w a2 len2 cap2 zs2) :
    Calls Try.prog 8 #[.int .i64 x0, .string s1, .slice a2 len2 cap2] w fun e w' => e = .returned (.bool true) ∧ Below w.heap.size w w' := by
  have ha2 := hrow2.reads
  have hl2 : (zs2.take len2).length = len2 := by
    rcases hrow2 with ⟨rfl, rfl, rfl, rfl⟩ | ⟨x, rfl, h1, h2, h3, _, _⟩
    · simp
    · simp; omega
  clear hrow2
  obtain ⟨xs2, hxs2⟩ : ∃ l, zs2.take len2 = l := ⟨_, rfl⟩
  rw [hxs2] at ha2 hl2
  clear hxs2
  subst hl2
  by_cases hbig1 : (1048576 : Int) < (s1.size : Int)
  · clear ha2
    go_enter Try.func8, Try.ntmps8
    go_wp2_with (fail)
    go_ret
    exact ⟨rfl, by first | exact Below.refl _ _ | go_grown⟩
  · have hlen1 : Hid ((s1.size : Int) ≤ 1048576) := by unfold Hid; omega
    have hsz1 : s1.size ≤ 1048576 := by omega
    by_cases hbig2 : (1048576 : Int) < (xs2.length : Int)
    · clear ha2
      go_enter Try.func8, Try.ntmps8
      go_wp2_with (fail)
      go_ret
      exact ⟨rfl, by first | exact Below.refl _ _ | go_grown⟩
    · have hlen2 : Hid ((xs2.length : Int) ≤ 1048576) := by unfold Hid; omega
      have HR2 := Lib.hid ha2
      clear ha2
      have hL0 : Below w.heap.size w w := Below.refl _ _
      obtain ⟨c0, hr_c0⟩ : ∃ x : Int, resContactsFor_0 x0 s1 xs2 = x := ⟨_, rfl⟩
      obtain ⟨c1, hr_c1⟩ : ∃ x : Int, resContactsFor_1 x0 s1 xs2 = x := ⟨_, rfl⟩
      have D1 : Hid (∀ (u_2 : Value) (w : World), Reads w u_2 xs2 → Calls Try.prog 31 #[.int .i64 x0, .string s1, u_2] w fun e w' => e = .returned (.tuple #[.int .i64 c0, .int .i64 c1]) ∧ Below w.heap.size w w') := fun u_2 w h2 => by subst hr_c0 hr_c1; exact iContactsFor_any x0 s1 hsz1 u_2 xs2 w h2
      have D2 : Hid (∀ (u_2 : Value) (w : World), Reads w u_2 xs2 → Calls Try.prog 30 #[.int .i64 x0, .string s1, u_2] w fun e w' => e = .returned (.tuple #[.int .i64 c0, .int .i64 c1]) ∧ Below w.heap.size w w') := fun u_2 w h2 => by subst hr_c0 hr_c1; exact sContactsFor_any x0 s1 hsz1 u_2 xs2 w h2
      clear hr_c0 hr_c1
      have hL := hL0
      clear hL0
      obtain ⟨H0, hH0, hc⟩ : ∃ H, w.heap.size + 0 ≤ H ∧ H ≤ w.heap.size + 0 := ⟨_, Nat.le_refl _, Nat.le_refl _⟩
      have hHU0 := hc
      go_enter Try.func8, Try.ntmps8
      go_wp2_with fail
      refine (toInt64S_x _ xs2 _ (HR2.out.keep (by go_grown)) (by have := hlen2.out; omega)).mono ?_
      rintro e w1_ ⟨nu2, nB2, nC2, rfl, on, hB, ⟨hBC, hC⟩, hb⟩
      have hx := chain (B := w.heap.size) (a := w) (by go_grown) (Nat.le_refl _) hb
      have hs := hb.size
      (repeat (first | rw [World.size_alloc] at hs | rw [World.size_drew] at hs))
      replace hL := chain (B := w.heap.size) (a := w) hL (by first | exact Nat.le_refl _ | simp) hx
      have on2 := Lib.hid on
      replace hc : H0 ≤ w1_.heap.size := by omega
      clear hx hs hb hB hBC hC on
      go_wp2_with fail
      refine (D2.out _ _ on2.out.reads).mono ?_
      rintro e w2_ ⟨rfl, hb⟩
      have hx := chain (B := w1_.heap.size) (a := w1_) (by go_grown) (Nat.le_refl _) hb
      have hs := hb.size
      (repeat (first | rw [World.size_alloc] at hs | rw [World.size_drew] at hs))
      replace on2 := Lib.hid (on2.out.keep hx)
      replace hL := chain (B := w.heap.size) (a := w) hL (by first | exact Nat.le_refl _ | simp) hx
      replace hc : H0 ≤ w2_.heap.size := by omega
      clear hx hs hb
      clear on2
      obtain ⟨H1, hH1, hcn⟩ : ∃ H, w2_.heap.size ≤ H ∧ H ≤ w2_.heap.size := ⟨_, Nat.le_refl _, Nat.le_refl _⟩
      have hHH1 : H0 ≤ H1 := by omega
      have hHU1 := hcn
      clear hc
      have hc := hcn
      clear hcn
      go_wp2_with fail
      refine (toInt64S_x _ xs2 _ (HR2.out.keep (by go_grown)) (by have := hlen2.out; omega)).mono ?_
      rintro e w3_ ⟨xu2, xB2, xC2, rfl, on, hB, ⟨hBC, hC⟩, hb⟩
      have hx := chain (B := w2_.heap.size) (a := w2_) (by go_grown) (Nat.le_refl _) hb
      have hs := hb.size
      (repeat (first | rw [World.size_alloc] at hs | rw [World.size_drew] at hs))
      replace hL := chain (B := w.heap.size) (a := w) hL (by first | exact Nat.le_refl _ | simp) hx
      (repeat (first | rw [World.size_alloc] at hB | rw [World.size_drew] at hB))
      have hLO2 : H1 ≤ xB2 := by omega
      have hHI2 := hC
      obtain ⟨H2, hH2, hcn⟩ : ∃ H, w3_.heap.size ≤ H ∧ H ≤ w3_.heap.size := ⟨_, Nat.le_refl _, Nat.le_refl _⟩
      have hHH2 : H1 ≤ H2 := by omega
      have hHU2 := hcn
      clear hc
      have hc := hcn
      clear hcn
      clear hx hs hb hB hC
      have ox2 := Lib.hid on
      clear on
      have hBC2 := hBC
      clear hBC
      go_wp2_with fail
      refine (D1.out _ _ (ox2.out.keep (by first | go_grown | exact (Below.refl _ _).alloc (Nat.le_refl _) _)).reads).mono ?_
      rintro e w4_ ⟨rfl, hb⟩
      have hx := chain (B := w3_.heap.size) (a := w3_) (by go_grown) (Nat.le_refl _) hb
      have hs := hb.size
      (repeat (first | rw [World.size_alloc] at hs | rw [World.size_drew] at hs))
      replace ox2 := Lib.hid (ox2.out.keep hx)
      replace hL := chain (B := w.heap.size) (a := w) hL (by first | exact Nat.le_refl _ | simp) hx
      replace hc : H2 ≤ w4_.heap.size := by omega
      clear hx hs hb
      go_wp2_with fail
      refine (toInt64S_x _ xs2 _ (HR2.out.keep (by go_grown)) (by have := hlen2.out; omega)).mono ?_
      rintro e w5_ ⟨yu2, yB2, yC2, rfl, on, hB, ⟨hBC, hC⟩, hb⟩
      have hx := chain (B := w4_.heap.size) (a := w4_) (by go_grown) (Nat.le_refl _) hb
      have hs := hb.size
      (repeat (first | rw [World.size_alloc] at hs | rw [World.size_drew] at hs))
      replace ox2 := Lib.hid (ox2.out.keep hx)
      replace hL := chain (B := w.heap.size) (a := w) hL (by first | exact Nat.le_refl _ | simp) hx
      have oy2 := Lib.hid on
      replace hc : H2 ≤ w5_.heap.size := by omega
      clear hx hs hb hB hBC hC on
      go_wp2_with fail
      refine (eqInt64S_same _ _ xs2 _ (ox2.out.keep (by go_grown)).reads (oy2.out.keep (by go_grown)).reads).mono ?_
      rintro e w6_ ⟨rfl, hb⟩
      have hx := chain (B := w5_.heap.size) (a := w5_) (by go_grown) (Nat.le_refl _) hb
      have hs := hb.size
      (repeat (first | rw [World.size_alloc] at hs | rw [World.size_drew] at hs))
      replace ox2 := Lib.hid (ox2.out.keep hx)
      replace oy2 := Lib.hid (oy2.out.keep hx)
      replace hL := chain (B := w.heap.size) (a := w) hL (by first | exact Nat.le_refl _ | simp) hx
      replace hc : H2 ≤ w6_.heap.size := by omega
      clear hx hs hb
      clear oy2
      go_wp2_with fail
      go_ret
      exact ⟨rfl, by first | assumption | go_grown⟩

end Go.Proofs.Ytbliibcfnfgdmaa
