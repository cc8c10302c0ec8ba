/- Which contacts are closed in a row: the program's and the model's. -/
import Derived.Test.YtlihnknlpbokiabCts
import Derived.Test.YtlihnknlpbokiabNetC
import Derived.Test.YtlihnknlpbokiabSetsM
import Derived.Test.YtlihnknlpbokiabClosedM
namespace Go.Proofs.Ytlihnknlpbokiab
open Go.RowKit
set_option linter.unusedVariables false

set_option maxRecDepth 100000 in
set_option maxHeartbeats 2000000 in
theorem closedInRow_any (v : Value) (xss : List (List Int)) (row : Int) (w : World) (ha : ReadsC w v xss) (hn : xss.length ≤ 12) (hk2 : ∀ i, i < xss.length → 0 ≤ (xss.getD i []).getD 2 0 ∧ (xss.getD i []).getD 2 0 < 5) (r0 : 0 ≤ row) (r1 : row < 9223372036854775808) :
    Calls Try.prog 55 #[v, .int .i64 row] w fun e w' => e = .returned (.int .i64 (closedS xss row)) ∧ Below w.heap.size w w' := by
  obtain ⟨a, ca, rfl, hm, ha⟩ := ha
  unfold maxLen at hm
  rcases ha with rfl | ⟨b, rfl, ha⟩
  · go_enter Try.func55, Try.ntmps55
    go_wp2
    refine wp_loop_rounds 1 ?_
    rw [rounds_succ]
    go_wp2
    go_ret
    exact ⟨rfl, Below.refl _ _⟩
  · have Ha := Lib.hid ha
    have Hk := Lib.hid hk2
    have HE : Hid (closedS xss row = ((setOf (clB xss row) xss.length : Nat) : Int)) := rfl
    clear ha hk2
    generalize hnn : xss.length = n at *
    clear hnn
    go_enter Try.func55, Try.ntmps55
    go_wp2_with fail
    go_loopw [5, 10] (fun s c wr => ∃ k : Nat, k ≤ n ∧ c = .int .i64 (k : Int) ∧ s = .int .i64 ((setOf (clB xss row) k : Nat) : Int) ∧ Below w.heap.size w wr) (fun _ c _ => n - (intOf c).toNat)
    case atStart => exact ⟨0, Nat.zero_le _, rfl, rfl, Below.refl _ _⟩
    case round =>
      obtain ⟨k, hk, rfl, rfl, hL⟩ := hrel
      by_cases hlt : k < n
      · have c0 := cell_later hL (Ha.out k hlt 0 (by omega))
        have c1 := cell_later hL (Ha.out k hlt 1 (by omega))
        have c2 := cell_later hL (Ha.out k hlt 2 (by omega))
        have c3 := cell_later hL (Ha.out k hlt 3 (by omega))
        simp only [Nat.add_zero] at c0
        obtain ⟨q0, q1⟩ := Hk.out k hlt
        have hi1 : (k : Int) < (n : Int) := by omega
        have hi0 : (0 : Int) ≤ (k : Int) := by omega
        have hz := hL.size
        have hlt63 := Nat.lt_of_lt_of_le (setOf_lt (clB xss row) k) (Nat.pow_le_pow_right (by decide) (show k ≤ 62 by omega))
        cases hcl : clB xss row k
        · have Hn := Lib.hid (setOf_miss _ _ hcl)
          have hd : (digZ row ((xss.getD k []).getD 2 0) != (xss.getD k []).getD 3 0) = false := hcl
          have hd2 : (digZ row ((xss.getD k []).getD 2 0) == (xss.getD k []).getD 3 0) = true := by simpa using hd
          clear hcl
          generalize (xss.getD k []).getD 0 0 = x0 at *
          generalize (xss.getD k []).getD 1 0 = x1 at *
          generalize (xss.getD k []).getD 2 0 = x2 at *
          generalize (xss.getD k []).getD 3 0 = x3 at *
          generalize setOf (clB xss row) k = sk at *
          go_wp2_with fail
          go_quiet ((go_at_call 53; exact quiet1 (digitAt_any _ _ _ r0 r1 (by omega) (by omega))))
          go_wp2_with fail
          go_roundw
          case rel => exact ⟨k + 1, by omega, by go_num, by rw [Hn.out], Bdrew (hL.alloc hz _) _⟩
          case measure => simp [intOf]; omega
        · have Hn := Lib.hid (or_walk _ k hlt63 (by omega))
          rw [setOf_hit _ _ hcl] at Hn
          have hd : (digZ row ((xss.getD k []).getD 2 0) != (xss.getD k []).getD 3 0) = true := hcl
          have hd2 : (digZ row ((xss.getD k []).getD 2 0) == (xss.getD k []).getD 3 0) = false := by simpa using hd
          clear hcl
          generalize (xss.getD k []).getD 0 0 = x0 at *
          generalize (xss.getD k []).getD 1 0 = x1 at *
          generalize (xss.getD k []).getD 2 0 = x2 at *
          generalize (xss.getD k []).getD 3 0 = x3 at *
          generalize setOf (clB xss row) k = sk at *
          go_wp2_with fail
          go_quiet ((go_at_call 53; exact quiet1 (digitAt_any _ _ _ r0 r1 (by omega) (by omega))))
          go_wp2_with fail
          go_roundw
          case rel => exact ⟨k + 1, by omega, by go_num, by rw [← Hn.out], Bdrew (hL.alloc hz _) _⟩
          case measure => simp [intOf]; omega
      · have e : k = n := by omega
        subst e
        go_wp2_with fail
        go_ret
        exact ⟨by rw [HE.out]; rfl, hL⟩

/-! ### the model's -/
set_option maxHeartbeats 1000000 in
theorem l02Closed_any (v : Value) (c : List Int) (row : Int) (w : World) (ha : Reads w v c) (h4 : c.length = 4) (q0 : 0 ≤ c.getD 2 0) (q1 : c.getD 2 0 < 5) (r0 : 0 ≤ row) (r1 : row < 9223372036854775808) {z : Bool} (hz : (digZ row (c.getD 2 0) != c.getD 3 0) = z) :
    Calls Try.prog 92 #[v, .int .i64 row] w fun e w' => e = .returned (.bool z) ∧ Below w.heap.size w w' := by
  obtain ⟨cb, co, cc, rfl, h⟩ := ha.four h4
  have c2 := h 2 (by omega)
  have c3 := h 3 (by omega)
  have hu := IntWalk.u64_in (c.getD 2 0) (by omega)
  have hm : min (c.getD 2 0).toNat 64 = (c.getD 2 0).toNat := by omega
  have hd := digit_walk row (c.getD 2 0) r0 r1 q0
  rw [← hd] at hz
  clear hd h ha h4
  generalize c.getD 2 0 = x2 at *
  generalize c.getD 3 0 = x3 at *
  go_enter Try.func92, Try.ntmps92
  go_wp2_with fail
  go_quiet (fail)
  go_wp2
  go_ret
  exact ⟨by rw [← hz]; rfl, Bdrew (Below.refl _ _) _⟩

set_option maxRecDepth 100000 in
set_option maxHeartbeats 2000000 in
theorem l02Set_any (p : Int) (v : Value) (xss : List (List Int)) (row : Int) (w : World) (ha : Reads2 w v xss) (hn : xss.length ≤ 12) (h4 : ∀ i, i < xss.length → (xss.getD i []).length = 4 ∧ 0 ≤ (xss.getD i []).getD 2 0 ∧ (xss.getD i []).getD 2 0 < 5) (r0 : 0 ≤ row) (r1 : row < 9223372036854775808) :
    Calls Try.prog 75 #[.agg #[.int .i64 p, v], .int .i64 row] w fun e w' => e = .returned (.int .i64 (closedS xss row)) ∧ Below w.heap.size w w' := by
  obtain ⟨a, ca, rfl, hm, ha⟩ := ha
  unfold maxLen at hm
  have k0 := C2.here w (.int .i64 p) (.slice a xss.length ca) 30
  rcases ha with rfl | ⟨b, off, rfl, ha⟩
  · go_enter Try.func75, Try.ntmps75
    go_wp2
    refine wp_loop_rounds 1 ?_
    rw [rounds_succ]
    go_wp2
    go_ret
    exact ⟨rfl, by go_grown⟩
  · have Ha := Lib.hid ha
    have H4 := Lib.hid h4
    have HE : Hid (closedS xss row = ((setOf (clB xss row) xss.length : Nat) : Int)) := rfl
    clear ha h4
    generalize hnn : xss.length = n at *
    clear hnn
    go_enter Try.func75, Try.ntmps75
    go_wp2_with fail
    go_loopw [5, 6] (fun s c wr => ∃ k : Nat, k ≤ n ∧ c = .int .i64 (k : Int) ∧ s = .int .i64 ((setOf (clB xss row) k : Nat) : Int) ∧ Below w.heap.size w wr ∧ C2 wr w.heap.size (.int .i64 p) (.slice (some ⟨b, off, none⟩) n ca)) (fun _ c _ => n - (intOf c).toNat)
    case atStart => exact ⟨0, Nat.zero_le _, rfl, rfl, by go_grown, k0⟩
    case round =>
      clear k0
      obtain ⟨k, hk, rfl, rfl, hL, k0⟩ := hrel
      by_cases hlt : k < n
      · obtain ⟨u, hu, hr⟩ := Ha.out k hlt
        have hca := cell_later hL hu
        have HR := Lib.hid (hr.keep hL)
        obtain ⟨l4, q0, q1⟩ := H4.out k hlt
        have L4 := Lib.hid l4
        have Q : Hid (0 ≤ (xss.getD k []).getD 2 0 ∧ (xss.getD k []).getD 2 0 < 5) := ⟨q0, q1⟩
        have R : Hid (0 ≤ row ∧ row < 9223372036854775808) := ⟨r0, r1⟩
        have hi1 : (k : Int) < (n : Int) := by omega
        have hi0 : (0 : Int) ≤ (k : Int) := by omega
        have hlt63 := Nat.lt_of_lt_of_le (setOf_lt (clB xss row) k) (Nat.pow_le_pow_right (by decide) (show k ≤ 62 by omega))
        have hu64 := IntWalk.u64_in (k : Int) (by omega)
        clear hu hr l4 q0 q1
        cases hcl : clB xss row k
        · have Hn := Lib.hid (setOf_miss _ _ hcl)
          have HZ : Hid ((digZ row ((xss.getD k []).getD 2 0) != (xss.getD k []).getD 3 0) = false) := hcl
          clear hcl
          generalize setOf (clB xss row) k = sk at *
          go_wp2_with (go_at_call 92; (with_reducible refine (l02Closed_any _ _ _ _ HR.out L4.out Q.out.1 Q.out.2 R.out.1 R.out.2 HZ.out).mono ?_); rintro e w' ⟨rfl, hb⟩; have hL' := chain (B := w.heap.size) (a := w) hL (Nat.le_refl _) hb; replace k0 := keepAt hb k0; clear hb)
          go_roundw
          case rel => exact ⟨k + 1, by omega, by go_num, by rw [Hn.out], hL', k0⟩
          case measure => simp [intOf]; omega
        · have Hn := Lib.hid (or_walk _ k hlt63 (by omega))
          rw [setOf_hit _ _ hcl] at Hn
          have HZ : Hid ((digZ row ((xss.getD k []).getD 2 0) != (xss.getD k []).getD 3 0) = true) := hcl
          clear hcl
          generalize setOf (clB xss row) k = sk at *
          go_wp2_with (go_at_call 92; (with_reducible refine (l02Closed_any _ _ _ _ HR.out L4.out Q.out.1 Q.out.2 R.out.1 R.out.2 HZ.out).mono ?_); rintro e w' ⟨rfl, hb⟩; have hL' := chain (B := w.heap.size) (a := w) hL (Nat.le_refl _) hb; replace k0 := keepAt hb k0; clear hb)
          go_roundw
          case rel => exact ⟨k + 1, by omega, by go_num, by rw [← Hn.out], hL', k0⟩
          case measure => simp [intOf]; omega
      · have e : k = n := by omega
        subst e
        go_wp2_with fail
        go_ret
        exact ⟨by rw [HE.out]; rfl, hL⟩

end Go.Proofs.Ytlihnknlpbokiab
