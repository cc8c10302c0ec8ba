/- The walk of FnExactIsNetwork. -/
import Derived.Test.YtlihnknlpbokiaaSNet
import Derived.Test.YtlihnknlpbokiaaNetCp
namespace Go.Proofs.Ytlihnknlpbokiaa
open Go.RowKit
set_option linter.unusedVariables false

theorem sIsNetwork_b (p : Int) (v : Value) (xss : List (List Int)) (w : World) (ha : Reads2 w v xss) {b : Bool} (hb : decide (Net p xss) = b) :
    Calls Try.prog 27 #[.agg #[.int .i64 p, v]] w fun e w' => e = .returned (.bool b) ∧ Below w.heap.size w w' := by
  have HC : Hid (∀ w', Reads2 w' v xss → Calls Try.prog 58 #[.agg #[.int .i64 p, v]] w' fun e w'' => e = .returned (.bool b) ∧ Below w'.heap.size w' w'') := fun w' h => hb ▸ l02Is_any p v xss w' h
  have HR := Lib.hid (ha.keep ((Below.refl _ _).alloc (Nat.le_refl _) (.cells #[.int .i64 p, v] 26)))
  obtain ⟨a, ca, rfl, _, _⟩ := ha
  clear hb
  go_enter Try.func27, Try.ntmps27
  go_wp2_with (go_at_call 58; (with_reducible refine (HC.out _ HR.out).mono ?_); rintro e w' ⟨rfl, hb⟩; have hL := chain (B := w.heap.size) (a := w) (by go_grown) (Nat.le_refl _) hb; clear hb)
  go_ret
  exact ⟨rfl, hL⟩
theorem isNetwork_b (p : Int) (v : Value) (xss : List (List Int)) (w : World) (ha : Reads2 w v xss) {b : Bool} (hb : decide (Net p xss) = b) :
    Calls Try.prog 26 #[.agg #[.int .i64 p, v]] w fun e w' => e = .returned (.bool b) ∧ Below w.heap.size w w' := by
  have := isNetwork_any p v xss w ha
  rwa [hb] at this

theorem purse {xss : List (List Int)} {z : Int} (h : szZ2 1048576 xss = z) (hz : z ≠ -1) : xss.length ≤ 1048576 ∧ (∀ i, i < xss.length → (xss.getD i []).length ≤ 1048576) ∧ xss.length + sumLen xss xss.length ≤ 1048576 ∧ 0 ≤ z := by
  obtain ⟨h1, h2⟩ := szZ2_pos (by rw [h]; exact hz)
  refine ⟨by omega, fun i hi => ?_, by omega, by omega⟩
  have := sumLen_mono xss (show i + 1 ≤ xss.length by omega)
  simp only [sumLen] at this
  omega
theorem reads2At {w w' : World} {v : Value} {xss : List (List Int)} (hb : Below w.heap.size w w') (h : Reads2 w v xss) : Reads2 w' v xss := h.keep hb

set_option maxRecDepth 100000 in
set_option maxHeartbeats 2000000 in
theorem walkFnExactIsNetwork (p : Int) (va : Value) (xss : List (List Int)) (w : World) (ha : Reads2 w va xss) :
    Calls Try.prog 8 #[.agg #[.int .i64 p, va]] w fun e w' => e = .returned (.bool true) ∧ Below w.heap.size w w' := by
  obtain ⟨b, hb⟩ : ∃ b : Bool, decide (Net p xss) = b := ⟨_, rfl⟩
  have HB := Lib.hid hb
  have HR := Lib.hid ha
  clear hb
  obtain ⟨z, hz⟩ : ∃ z, szZ2 1048576 xss = z := ⟨_, rfl⟩
  have HZ := Lib.hid hz
  obtain ⟨va1, vc1, rfl, _, _⟩ := ha
  have k0 := C2.here w (.int .i64 p) (.slice va1 xss.length vc1) 63
  have HR0 := Lib.hid (HR.out.keep ((Below.refl _ _).alloc (Nat.le_refl _) (.cells #[.int .i64 p, .slice va1 xss.length vc1] 63)))
  have HQ : Hid ((0 : Int) ≤ 1048576 ∧ (1048576 : Int) ≤ 1048576) := by unfold Hid; omega
  by_cases hz1 : z = -1
  · subst hz1
    clear hz
    go_enter Try.func8, Try.ntmps8
    go_wp2_with (go_at_call 49; (with_reducible refine (szNetwork_any _ _ xss _ _ HR0.out HQ.out.1 HQ.out.2 HZ.out).mono ?_); rintro e w' ⟨rfl, hb⟩; have hL := chain (B := w.heap.size) (a := w) (by go_grown) (Nat.le_refl _) hb; clear hb)
    go_ret
    exact ⟨rfl, hL⟩
  · obtain ⟨hn, hl, _, z0⟩ := purse hz hz1
    have HN := Lib.hid hn
    have HL := Lib.hid hl
    have hz2 : ¬ z < 0 := by omega
    clear hz hl hn hz1
    go_enter Try.func8, Try.ntmps8
    go_wp2_with fail
    refine (szNetwork_any _ _ xss _ _ HR0.out HQ.out.1 HQ.out.2 HZ.out).mono ?_
    rintro e w1 ⟨rfl, hb⟩
    have hL := chain (B := w.heap.size) (a := w) (by go_grown) (Nat.le_refl _) hb
    replace k0 := keepAt hb k0
    clear hb
    go_wp2_with fail
    refine (toNetwork_any _ _ xss _ (HR.out.keep (by go_grown)) HN.out HL.out).mono ?_
    rintro e w2 ⟨na, nc, rfl, on, hb⟩
    replace hL := chain (B := w.heap.size) (a := w) (by go_grown) (Nat.le_refl _) hb
    replace k0 := keepAt hb k0
    clear hb
    have RN := Lib.hid on.reads
    clear on
    go_wp2_with fail
    refine (sIsNetwork_b _ _ xss _ RN.out HB.out).mono ?_
    rintro e w3 ⟨rfl, hb⟩
    replace hL := chain (B := w.heap.size) (a := w) (by go_grown) (Nat.le_refl _) hb
    replace k0 := keepAt hb k0
    clear hb RN
    go_wp2_with fail
    refine (toNetwork_any _ _ xss _ (HR.out.keep (by go_grown)) HN.out HL.out).mono ?_
    rintro e w4 ⟨xa, xc, rfl, ox, hb⟩
    replace hL := chain (B := w.heap.size) (a := w) (by go_grown) (Nat.le_refl _) hb
    replace k0 := keepAt hb k0
    have k1 := C2.here w4 (.int .i64 p) (.slice xa xss.length xc) 26
    have hz0 := hL.size
    clear hb
    have RX := Lib.hid ((ox.reads).keep ((Below.refl _ _).alloc (Nat.le_refl _) (.cells #[.int .i64 p, .slice xa xss.length xc] 26)))
    clear ox
    replace k0 := k0.alloc (.cells #[.int .i64 p, .slice xa xss.length xc] 26)
    go_wp2_with fail
    refine (isNetwork_b _ _ xss _ RX.out HB.out).mono ?_
    rintro e w5 ⟨rfl, hb⟩
    replace hL := chain (B := w.heap.size) (a := w) (by go_grown) (Nat.le_refl _) hb
    replace k0 := keepAt hb k0
    replace k1 := keepAt hb k1
    replace RX := Lib.hid (RX.out.keep hb)
    clear hb
    go_wp2_with fail
    go_region_with (first | (go_at_call 50; (with_reducible refine (toNetwork_any _ _ xss _ (HR.out.keep (by go_grown)) HN.out HL.out).mono ?_); rintro e w6 ⟨ya, yc, rfl, oy, hb⟩; have hL := chain (B := w.heap.size) (a := w) (by go_grown) (Nat.le_refl _) hb; replace k1 := keepAt hb (show C2 _ _ _ _ from k1); replace RX := Lib.hid (reads2At hb RX.out); have RY := Lib.hid oy.reads; clear hb oy) | (go_at_call 51; (with_reducible refine (eqNetwork_same _ _ _ xss _ RX.out RY.out).mono ?_); rintro e w7 ⟨rfl, hb⟩; have hL := chain (B := w.heap.size) (a := w) (by go_grown) (Nat.le_refl _) hb; clear hb))
    all_goals (go_wp2_with fail)
    all_goals go_ret
    all_goals exact ⟨rfl, by first | assumption | go_grown⟩

end Go.Proofs.Ytlihnknlpbokiaa
