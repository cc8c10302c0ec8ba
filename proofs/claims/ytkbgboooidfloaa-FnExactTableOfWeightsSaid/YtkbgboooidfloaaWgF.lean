/- TableOfWeights: the program's, whole. -/
import Derived.Test.YtkbgboooidfloaaWgI
namespace Go.Proofs.Ytkbgboooidfloaa
open Go.RowKit
set_option linter.unusedVariables false

theorem tooFar_any (x : Int) (w : World) :
    Calls Try.prog 60 #[.int .i64 x] w fun e w' => e = .returned (.bool (farW x)) ∧ Below w.heap.size w w' := by
  by_cases h : 0 ≤ x ∧ x < 11
  · have HX := Lib.hid h
    have HF : Hid (farW x = false) := by unfold Hid farW; exact decide_eq_false (by omega)
    clear h
    go_enter Try.func60, Try.ntmps60
    go_wp2_with ((go_at_call 42; (with_reducible refine (isBelow_yes _ _ _ HX.out).mono ?_); rintro e w' ⟨rfl, rfl⟩))
    go_ret
    exact ⟨by rw [HF.out]; rfl, Below.refl _ _⟩
  · have HX := Lib.hid h
    have HF : Hid (farW x = true) := by unfold Hid farW; exact decide_eq_true (by omega)
    clear h
    go_enter Try.func60, Try.ntmps60
    go_wp2_with ((go_at_call 42; (with_reducible refine (isBelow_no _ _ _ HX.out).mono ?_); rintro e w' ⟨rfl, rfl⟩))
    go_ret
    exact ⟨by rw [HF.out]; rfl, Below.refl _ _⟩

theorem far_okW {xs : List Int} : (∀ i, i < xs.length → 0 ≤ xs.getD i 0 ∧ xs.getD i 0 ≤ 10) ↔ ¬ ∃ i, i < xs.length ∧ farW (xs.getD i 0) = true := by
  constructor
  · rintro h ⟨i, hi, hf⟩
    have := h i hi
    unfold farW at hf
    have := of_decide_eq_true hf
    omega
  · intro h i hi
    have : ¬ farW (xs.getD i 0) = true := fun hf => h ⟨i, hi, hf⟩
    unfold farW at this
    rw [decide_eq_true_iff] at this
    omega
theorem resTW_no {xs : List Int} {b : Int} (h : ¬ okW xs b) : resTableOfWeights_0n xs b = 0 ∧ resTableOfWeights_0m xs b = 0 ∧ resTableOfWeights_1 xs b = 2 := by
  unfold resTableOfWeights_0n resTableOfWeights_0m resTableOfWeights_1; rw [if_neg h, if_neg h, if_neg h]; exact ⟨rfl, rfl, rfl⟩
theorem resTW_yes {xs : List Int} {b : Int} (h : okW xs b) : resTableOfWeights_0n xs b = (xs.length : Int) ∧ resTableOfWeights_0m xs b = wTo xs b (2 ^ xs.length) ∧ resTableOfWeights_1 xs b = 0 := by
  unfold resTableOfWeights_0n resTableOfWeights_0m resTableOfWeights_1; rw [if_pos h, if_pos h, if_pos h]; exact ⟨rfl, rfl, rfl⟩

set_option maxRecDepth 100000 in
set_option maxHeartbeats 4000000 in
theorem iTableOfWeights_any (v : Value) (xs : List Int) (b : Int) (w : World) (ha : Reads w v xs) :
    Calls Try.prog 31 #[v, .int .i64 b] w fun e w' => e = .returned (.tuple #[.agg #[.int .i64 (resTableOfWeights_0n xs b), .int .i64 (resTableOfWeights_0m xs b)], .int .i64 (resTableOfWeights_1 xs b)]) ∧ Below w.heap.size w w' := by
  have k0 : C2 (w.alloc (.cells #[.int .i64 0, .int .i64 0] 30)) (w.heap.size) (.int .i64 0) (.int .i64 0) := by simpa using C2.here w (.int .i64 0) (.int .i64 0) 30
  have hL : Below w.heap.size w (w.alloc (.cells #[.int .i64 0, .int .i64 0] 30)) := (Below.refl _ _).alloc (Nat.le_refl _) _
  have ha1 := Lib.hid (ha.keep hL)
  obtain ⟨a, ca, rfl, hm, _⟩ := ha
  by_cases hn : 1 ≤ xs.length ∧ xs.length ≤ 5
  · have HC := Lib.hid (fun (w1 : World) (h1 : Reads w1 (.slice a xs.length ca) xs) {c : Bool} (hc : decide (∃ i, i < xs.length ∧ farW (xs.getD i 0) = true) = c) => containsFunc_any _ xs 60 #[] farW w1 h1 (fun x wx _ => tooFar_any x wx) (enters_of Try.func60 (by kernel_rfl) rfl) hc)
    by_cases hf : ∃ i, i < xs.length ∧ farW (xs.getD i 0) = true
    · have hr := Lib.hid (resTW_no (xs := xs) (b := b) (fun h => far_okW.1 h.2.1 hf))
      have HC2 := Lib.hid (HC.out _ ha1.out (decide_eq_true hf))
      have n1 : 1 ≤ (xs.length : Int) := by omega
      have n5 : (xs.length : Int) ≤ 5 := by omega
      clear hf HC
      go_enter Try.func31, Try.ntmps31
      go_wp2_with (first | (go_at_call 47; (with_reducible refine (isInputCount_yes _ _ n1 n5).mono ?_); rintro e w' ⟨rfl, rfl⟩) | (go_at_call 61; (with_reducible refine HC2.out.mono ?_); rintro e w2 ⟨rfl, hb⟩; have hL := chain (B := w.heap.size) (a := w) hL (Nat.le_refl _) hb; replace k0 := keepAt hb k0; clear hb))
      refine bodyPost_ret (v := .tuple #[.agg #[.int .i64 0, .int .i64 0], .int .i64 2]) (by simp [results, Try.results31, go_sem, *]) rfl ?_
      exact ⟨by rw [hr.out.1, hr.out.2.1, hr.out.2.2], by go_grown⟩
    · have HC2 := Lib.hid (HC.out _ ha1.out (decide_eq_false hf))
      have n1 : 1 ≤ (xs.length : Int) := by omega
      have n5 : (xs.length : Int) ≤ 5 := by omega
      have hw := far_okW.2 hf
      by_cases hb : 0 ≤ b ∧ b ≤ 100
      · have hr := Lib.hid (resTW_yes (xs := xs) (b := b) ⟨hn, hw, hb⟩)
        have HX : Hid (0 ≤ b ∧ b < 101) := ⟨hb.1, by omega⟩
        have HWO := Lib.hid (fun (w1 : World) (h1 : Reads w1 (.slice a xs.length ca) xs) => weightsOf_any _ xs w1 h1 hn.1 hn.2)
        have HWT := Lib.hid (fun w => weighedTable_any xs b w hn.1 hn.2 (wdefault hw) hb.1 hb.2)
        clear hf HC hw hb hn
        generalize wArr xs = A at *
        go_enter Try.func31, Try.ntmps31
        go_wp2_with (first | (go_at_call 47; (with_reducible refine (isInputCount_yes _ _ n1 n5).mono ?_); rintro e w' ⟨rfl, rfl⟩) | (go_at_call 42; (with_reducible refine (isBelow_yes _ _ _ HX.out).mono ?_); rintro e w' ⟨rfl, rfl⟩) | (go_at_call 61; (with_reducible refine HC2.out.mono ?_); rintro e w2 ⟨rfl, hb⟩; have hL := chain (B := w.heap.size) (a := w) hL (Nat.le_refl _) hb; replace k0 := keepAt hb k0; have ha2 := Lib.hid (ha1.out.keep hb); clear hb) | (go_at_call 63; (with_reducible refine (HWO.out _ ha2.out).mono ?_); rintro e w3 ⟨rfl, hb⟩; have hL := chain (B := w.heap.size) (a := w) hL (Nat.le_refl _) hb; replace k0 := keepAt hb k0; clear hb) | (go_at_call 62; (with_reducible refine (HWT.out _).mono ?_); rintro e w4 ⟨rfl, hb⟩; have hL := chain (B := w.heap.size) (a := w) hL (Nat.le_refl _) hb; replace k0 := keepAt hb k0; clear hb))
        refine bodyPost_ret (v := .tuple #[.agg #[.int .i64 (xs.length : Int), .int .i64 (wTo xs b (2 ^ xs.length))], .int .i64 0]) (by simp [results, Try.results31, go_sem, *]) rfl ?_
        exact ⟨by rw [hr.out.1, hr.out.2.1, hr.out.2.2], by go_grown⟩
      · have hr := Lib.hid (resTW_no (xs := xs) (b := b) (fun h => hb h.2.2))
        have HX : Hid (¬ (0 ≤ b ∧ b < 101)) := by unfold Hid; omega
        clear hf HC hw hb
        go_enter Try.func31, Try.ntmps31
        go_wp2_with (first | (go_at_call 47; (with_reducible refine (isInputCount_yes _ _ n1 n5).mono ?_); rintro e w' ⟨rfl, rfl⟩) | (go_at_call 42; (with_reducible refine (isBelow_no _ _ _ HX.out).mono ?_); rintro e w' ⟨rfl, rfl⟩) | (go_at_call 61; (with_reducible refine HC2.out.mono ?_); rintro e w2 ⟨rfl, hb⟩; have hL := chain (B := w.heap.size) (a := w) hL (Nat.le_refl _) hb; replace k0 := keepAt hb k0; clear hb))
        refine bodyPost_ret (v := .tuple #[.agg #[.int .i64 0, .int .i64 0], .int .i64 2]) (by simp [results, Try.results31, go_sem, *]) rfl ?_
        exact ⟨by rw [hr.out.1, hr.out.2.1, hr.out.2.2], by go_grown⟩
  · have hr := Lib.hid (resTW_no (xs := xs) (b := b) (fun h => hn h.1))
    have hN : Hid ((xs.length : Int) < 1 ∨ 5 < (xs.length : Int)) := by unfold Hid; omega
    clear hn
    go_enter Try.func31, Try.ntmps31
    go_wp2_with ((go_at_call 47; (with_reducible refine (isInputCount_no _ _ hN.out).mono ?_); rintro e w' ⟨rfl, rfl⟩))
    refine bodyPost_ret (v := .tuple #[.agg #[.int .i64 0, .int .i64 0], .int .i64 2]) (by simp [results, Try.results31, go_sem, *]) rfl ?_
    exact ⟨by rw [hr.out.1, hr.out.2.1, hr.out.2.2], by go_grown⟩

end Go.Proofs.Ytkbgboooidfloaa
