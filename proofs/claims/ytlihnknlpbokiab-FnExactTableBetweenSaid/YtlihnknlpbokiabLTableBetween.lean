/- TableBetween of the program, whole; the walk of FnExactTableBetween. -/
import Derived.Test.YtlihnknlpbokiabTB4
import Derived.Test.YtlihnknlpbokiabNetX
namespace Go.Proofs.Ytlihnknlpbokiab
open Go.RowKit
set_option linter.unusedVariables false

set_option maxRecDepth 100000 in
set_option maxHeartbeats 2000000 in
theorem iTableBetween_any (p : Int) (v : Value) (xss : List (List Int)) (n pt q : Int) (w : World) (ha : Reads2 w v xss) :
    Calls Try.prog 15 #[.agg #[.int .i64 p, v], .int .i64 n, .int .i64 pt, .int .i64 q] w fun e w' => e = .returned (tbRes p xss n pt q) ∧ Below w.heap.size w w' := by
  have HR := Lib.hid ha
  obtain ⟨a, ca, rfl, _, _⟩ := ha
  have k0 : C2 ((w.alloc (.cells #[.int .i64 p, .slice a xss.length ca] 30)).alloc (.cells #[.int .i64 0, .int .i64 0] 27)) w.heap.size (.int .i64 p) (.slice a xss.length ca) := (C2.here w _ _ _).alloc _
  have k1 : C2 ((w.alloc (.cells #[.int .i64 p, .slice a xss.length ca] 30)).alloc (.cells #[.int .i64 0, .int .i64 0] 27)) (w.heap.size + 1) (.int .i64 0) (.int .i64 0) := by simpa using C2.here (w.alloc (.cells #[.int .i64 p, .slice a xss.length ca] 30)) (.int .i64 0) (.int .i64 0) 27
  by_cases hN : Net p xss
  · have HN : Hid (decide (Net p xss) = true) := decide_eq_true hN
    by_cases hn : 1 ≤ n ∧ n ≤ 5
    · by_cases hp : 0 ≤ pt ∧ pt < p
      · by_cases hq : 0 ≤ q ∧ q < p
        · exact iTableBetween_good p a ca xss n pt q w HR.out hN hn.1 hn.2 hp hq
        · have hr : Hid (tbRes p xss n pt q = .tuple #[.agg #[.int .i64 0, .int .i64 0], .int .i64 2]) := by unfold Hid tbRes; rw [if_pos hN, if_neg (fun h => hq h.2.2.1)]
          have HP := Lib.hid hp
          have HQ := Lib.hid hq
          obtain ⟨n1, n5⟩ := hn
          clear hN hp hq
          go_enter Try.func15, Try.ntmps15
          go_wp2_with fail
          refine (isNetwork_b _ _ xss _ (HR.out.keep (by go_grown)) HN.out).mono ?_
          rintro e wn ⟨rfl, hb⟩
          have hL := chain (B := w.heap.size) (a := w) (by go_grown) (Nat.le_refl _) hb
          replace k0 := keepAt hb k0
          replace k1 := keepAt hb k1
          clear hb
          go_wp2_with (first | (go_at_call 49; (with_reducible refine (isInputCount_yes _ _ n1 n5).mono ?_); rintro e w' ⟨rfl, rfl⟩) | (go_at_call 50; (with_reducible refine (isBelow_yes _ _ _ HP.out).mono ?_); rintro e w' ⟨rfl, rfl⟩) | (go_at_call 50; (with_reducible refine (isBelow_no _ _ _ HQ.out).mono ?_); rintro e w' ⟨rfl, rfl⟩))
          refine bodyPost_ret (v := .tuple #[.agg #[.int .i64 0, .int .i64 0], .int .i64 2]) (by simp [results, Try.results15, go_sem, *]) rfl ?_
          exact ⟨by rw [hr.out], by go_grown⟩
      · have hr : Hid (tbRes p xss n pt q = .tuple #[.agg #[.int .i64 0, .int .i64 0], .int .i64 2]) := by unfold Hid tbRes; rw [if_pos hN, if_neg (fun h => hp h.2.1)]
        have HP := Lib.hid hp
        obtain ⟨n1, n5⟩ := hn
        clear hN hp
        go_enter Try.func15, Try.ntmps15
        go_wp2_with fail
        refine (isNetwork_b _ _ xss _ (HR.out.keep (by go_grown)) HN.out).mono ?_
        rintro e wn ⟨rfl, hb⟩
        have hL := chain (B := w.heap.size) (a := w) (by go_grown) (Nat.le_refl _) hb
        replace k0 := keepAt hb k0
        replace k1 := keepAt hb k1
        clear hb
        go_wp2_with (first | (go_at_call 49; (with_reducible refine (isInputCount_yes _ _ n1 n5).mono ?_); rintro e w' ⟨rfl, rfl⟩) | (go_at_call 50; (with_reducible refine (isBelow_no _ _ _ HP.out).mono ?_); rintro e w' ⟨rfl, rfl⟩))
        refine bodyPost_ret (v := .tuple #[.agg #[.int .i64 0, .int .i64 0], .int .i64 2]) (by simp [results, Try.results15, go_sem, *]) rfl ?_
        exact ⟨by rw [hr.out], by go_grown⟩
    · have hr : Hid (tbRes p xss n pt q = .tuple #[.agg #[.int .i64 0, .int .i64 0], .int .i64 2]) := by unfold Hid tbRes; rw [if_pos hN, if_neg (fun h => hn h.1)]
      have Hn : Hid (n < 1 ∨ 5 < n) := by unfold Hid; omega
      clear hN hn
      go_enter Try.func15, Try.ntmps15
      go_wp2_with fail
      refine (isNetwork_b _ _ xss _ (HR.out.keep (by go_grown)) HN.out).mono ?_
      rintro e wn ⟨rfl, hb⟩
      have hL := chain (B := w.heap.size) (a := w) (by go_grown) (Nat.le_refl _) hb
      replace k0 := keepAt hb k0
      replace k1 := keepAt hb k1
      clear hb
      go_wp2_with ((go_at_call 49; (with_reducible refine (isInputCount_no _ _ Hn.out).mono ?_); rintro e w' ⟨rfl, rfl⟩))
      refine bodyPost_ret (v := .tuple #[.agg #[.int .i64 0, .int .i64 0], .int .i64 2]) (by simp [results, Try.results15, go_sem, *]) rfl ?_
      exact ⟨by rw [hr.out], by go_grown⟩
  · have HN : Hid (decide (Net p xss) = false) := decide_eq_false hN
    have hr : Hid (tbRes p xss n pt q = .tuple #[.agg #[.int .i64 0, .int .i64 0], .int .i64 1]) := by unfold Hid tbRes; rw [if_neg hN]
    clear hN
    go_enter Try.func15, Try.ntmps15
    go_wp2_with fail
    refine (isNetwork_b _ _ xss _ (HR.out.keep (by go_grown)) HN.out).mono ?_
    rintro e wn ⟨rfl, hb⟩
    have hL := chain (B := w.heap.size) (a := w) (by go_grown) (Nat.le_refl _) hb
    replace k0 := keepAt hb k0
    replace k1 := keepAt hb k1
    clear hb
    go_wp2_with fail
    refine bodyPost_ret (v := .tuple #[.agg #[.int .i64 0, .int .i64 0], .int .i64 1]) (by simp [results, Try.results15, go_sem, *]) rfl ?_
    exact ⟨by rw [hr.out], by go_grown⟩

set_option maxRecDepth 100000 in
set_option maxHeartbeats 4000000 in
theorem walkFnExactTableBetween (p : Int) (va : Value) (xss : List (List Int)) (x1 : Int) (wx1 : (Lit.int .i64 x1).wf = true) (x2 : Int) (wx2 : (Lit.int .i64 x2).wf = true) (x3 : Int) (wx3 : (Lit.int .i64 x3).wf = true) (w : World) (ha : Reads2 w va xss) :
    Calls Try.prog 3 #[.agg #[.int .i64 p, va], .int .i64 x1, .int .i64 x2, .int .i64 x3] w fun e w' => e = .returned (.bool true) ∧ Below w.heap.size w w' := by
  obtain ⟨ra, rb, rc, habc⟩ := tbRes_cases p xss x1 x2 x3
  have D1 : Hid (∀ (u : Value) (w : World), Reads2 w u xss → Calls Try.prog 15 #[.agg #[.int .i64 p, u], .int .i64 x1, .int .i64 x2, .int .i64 x3] w fun e w' => e = .returned (.tuple #[.agg #[.int .i64 ra, .int .i64 rb], .int .i64 rc]) ∧ Below w.heap.size w w') := fun u w h => habc ▸ iTableBetween_any p u xss x1 x2 x3 w h
  have D2 : Hid (∀ (u : Value) (w : World), Reads2 w u xss → Calls Try.prog 13 #[.agg #[.int .i64 p, u], .int .i64 x1, .int .i64 x2, .int .i64 x3] w fun e w' => e = .returned (.tuple #[.agg #[.int .i64 ra, .int .i64 rb], .int .i64 rc]) ∧ Below w.heap.size w w') := fun u w h => habc ▸ sTableBetween_any p u xss x1 x2 x3 w h
  clear habc
  have HR := Lib.hid ha
  obtain ⟨z, hz⟩ : ∃ z, szZ2 1048576 xss = z := ⟨_, rfl⟩
  have HZ := Lib.hid hz
  obtain ⟨a, ca, rfl, _, _⟩ := ha
  have k0 := C2.here w (.int .i64 p) (.slice a xss.length ca) 24
  have HR0 := Lib.hid (HR.out.keep ((Below.refl _ _).alloc (Nat.le_refl _) (.cells #[.int .i64 p, .slice a xss.length ca] 24)))
  have HQ : Hid ((0 : Int) ≤ 1048576 ∧ (1048576 : Int) ≤ 1048576) := by unfold Hid; omega
  by_cases hz1 : z = -1
  · subst hz1
    clear hz
    go_enter Try.func3, Try.ntmps3
    go_wp2_with (go_at_call 12; (with_reducible refine (szNetwork_any _ _ xss _ _ HR0.out HQ.out.1 HQ.out.2 HZ.out).mono ?_); rintro e w' ⟨rfl, hb⟩; have hL := chain (B := w.heap.size) (a := w) (by go_grown) (Nat.le_refl _) hb; clear hb)
    go_ret
    exact ⟨rfl, hL⟩
  · obtain ⟨hn, hl, hsum, z0⟩ := purse hz hz1
    have HN := Lib.hid hn
    have HL := Lib.hid hl
    have hz2 : ¬ z < 0 := by omega
    clear hz hl hn hz1 hsum
    go_enter Try.func3, Try.ntmps3
    go_wp2_with fail
    refine (szNetwork_any _ _ xss _ _ HR0.out HQ.out.1 HQ.out.2 HZ.out).mono ?_
    rintro e w1 ⟨rfl, hb⟩
    have hL := chain (B := w.heap.size) (a := w) (by go_grown) (Nat.le_refl _) hb
    replace k0 := keepAt hb k0
    clear hb
    go_wp2_with fail
    refine (toNetwork_any _ _ xss _ (HR.out.keep (by go_grown)) HN.out HL.out).mono ?_
    rintro e w2 ⟨na, nc, rfl, on, hb⟩
    have hL := chain (B := w.heap.size) (a := w) (by go_grown) (Nat.le_refl _) hb
    replace k0 := keepAt hb k0
    have RN := Lib.hid on.reads
    clear hb on
    go_wp2_with fail
    refine (D2.out _ _ RN.out).mono ?_
    rintro e w3 ⟨rfl, hb⟩
    have hL := chain (B := w.heap.size) (a := w) (by go_grown) (Nat.le_refl _) hb
    have hz3 := hL.size
    replace k0 := keepAt hb k0
    clear hb RN
    have kw := C2.here w3 (.int .i64 ra) (.int .i64 rb) 27
    replace k0 := k0.alloc (.cells #[.int .i64 ra, .int .i64 rb] 27)
    go_wp2_with fail
    refine (toNetwork_any _ _ xss _ (HR.out.keep (by go_grown)) HN.out HL.out).mono ?_
    rintro e w4 ⟨xa, xc, rfl, ox, hb⟩
    have hL := chain (B := w.heap.size) (a := w) (by go_grown) (Nat.le_refl _) hb
    have hz4 := hL.size
    replace k0 := keepAt hb k0
    replace kw := keepAt hb kw
    have RX := Lib.hid ((ox.reads).keep ((Below.refl _ _).alloc (Nat.le_refl _) (.cells #[.int .i64 p, .slice xa xss.length xc] 30)))
    clear hb ox
    have kx := C2.here w4 (.int .i64 p) (.slice xa xss.length xc) 30
    replace k0 := k0.alloc (.cells #[.int .i64 p, .slice xa xss.length xc] 30)
    replace kw := kw.alloc (.cells #[.int .i64 p, .slice xa xss.length xc] 30)
    go_wp2_with fail
    refine (D1.out _ _ RX.out).mono ?_
    rintro e w5 ⟨rfl, hb⟩
    have hL := chain (B := w.heap.size) (a := w) (by go_grown) (Nat.le_refl _) hb
    have hz5 := hL.size
    replace k0 := keepAt hb k0
    replace kw := keepAt hb kw
    replace kx := keepAt hb kx
    replace RX := Lib.hid (reads2At ((Below.refl _ _).alloc (Nat.le_refl _) (.cells #[.int .i64 ra, .int .i64 rb] 27)) (reads2At hb RX.out))
    clear hb
    have kg := C2.here w5 (.int .i64 ra) (.int .i64 rb) 27
    replace k0 := k0.alloc (.cells #[.int .i64 ra, .int .i64 rb] 27)
    replace kw := kw.alloc (.cells #[.int .i64 ra, .int .i64 rb] 27)
    replace kx := kx.alloc (.cells #[.int .i64 ra, .int .i64 rb] 27)
    go_wp2_with fail
    refine (eqTable_same _ _ _).mono ?_
    rintro e w6 ⟨rfl, hb⟩
    have hL := chain (B := w.heap.size) (a := w) (by go_grown) (Nat.le_refl _) hb
    replace k0 := keepAt hb k0
    replace kx := keepAt hb kx
    replace RX := Lib.hid (reads2At hb RX.out)
    clear hb kw kg
    go_wp2_with fail
    go_region_with (first | (go_at_call 14; (with_reducible refine (toNetwork_any _ _ xss _ (HR.out.keep (by go_grown)) HN.out HL.out).mono ?_); rintro e w7 ⟨ya, yc, rfl, oy, hb⟩; have hL := chain (B := w.heap.size) (a := w) (by go_grown) (Nat.le_refl _) hb; replace kx := keepAt hb (show C2 _ _ _ _ from kx); replace RX := Lib.hid (reads2At hb RX.out); have RY := Lib.hid oy.reads; clear hb oy) | (go_at_call 17; (with_reducible refine (eqNetwork_same _ _ _ xss _ RX.out RY.out).mono ?_); rintro e w8 ⟨rfl, hb⟩; have hL := chain (B := w.heap.size) (a := w) (by go_grown) (Nat.le_refl _) hb; clear hb))
    all_goals (go_wp2_with fail)
    all_goals go_ret
    all_goals exact ⟨rfl, by first | assumption | go_grown⟩

end Go.Proofs.Ytlihnknlpbokiab
