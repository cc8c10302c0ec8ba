/- Which contacts are closed in a row, sixty contacts at most. -/
import Derived.Test.YtkdidplpnhokiaaCts
import Derived.Test.YtkdidplpnhokiaaNetC
import Derived.Test.YtkdidplpnhokiaaSetsM
import Derived.Test.YtkdidplpnhokiaaClosedM
namespace Go.Proofs.Ytkdidplpnhokiaa
open Go.RowKit
set_option linter.unusedVariables false

set_option maxRecDepth 100000 in
set_option maxHeartbeats 2000000 in
theorem closedInRow_w (v : Value) (xss : List (List Int)) (row : Int) (w : World) (ha : ReadsC w v xss) (hn : xss.length ≤ 60) (hk2 : ∀ i, i < xss.length → 0 ≤ (xss.getD i []).getD 2 0 ∧ (xss.getD i []).getD 2 0 < 60) (r0 : 0 ≤ row) (r1 : row < 9223372036854775808) :
    Calls Try.prog 121 #[v, .int .i64 row] w fun e w' => e = .returned (.int .i64 (closedS xss row)) ∧ Below w.heap.size w w' := by
  obtain ⟨a, ca, rfl, hm, ha⟩ := ha
  unfold maxLen at hm
  rcases ha with rfl | ⟨b, rfl, ha⟩
  · go_enter Try.func121, Try.ntmps121
    go_wp2
    refine wp_loop_rounds 1 ?_
    rw [rounds_succ]
    go_wp2
    go_ret
    exact ⟨rfl, Below.refl _ _⟩
  · have Ha := Lib.hid ha
    have Hk := Lib.hid hk2
    have HE : Hid (closedS xss row = ((setOf (clB xss row) xss.length : Nat) : Int)) := rfl
    clear ha hk2
    generalize hnn : xss.length = n at *
    clear hnn
    go_enter Try.func121, Try.ntmps121
    go_wp2_with fail
    go_loopw [5, 10] (fun s c wr => ∃ k : Nat, k ≤ n ∧ c = .int .i64 (k : Int) ∧ s = .int .i64 ((setOf (clB xss row) k : Nat) : Int) ∧ Below w.heap.size w wr) (fun _ c _ => n - (intOf c).toNat)
    case atStart => exact ⟨0, Nat.zero_le _, rfl, rfl, Below.refl _ _⟩
    case round =>
      obtain ⟨k, hk, rfl, rfl, hL⟩ := hrel
      by_cases hlt : k < n
      · have c0 := cell_later hL (Ha.out k hlt 0 (by omega))
        have c1 := cell_later hL (Ha.out k hlt 1 (by omega))
        have c2 := cell_later hL (Ha.out k hlt 2 (by omega))
        have c3 := cell_later hL (Ha.out k hlt 3 (by omega))
        simp only [Nat.add_zero] at c0
        obtain ⟨q0, q1⟩ := Hk.out k hlt
        have hi1 : (k : Int) < (n : Int) := by omega
        have hi0 : (0 : Int) ≤ (k : Int) := by omega
        have hz := hL.size
        have hlt63 := Nat.lt_of_lt_of_le (setOf_lt (clB xss row) k) (Nat.pow_le_pow_right (by decide) (show k ≤ 62 by omega))
        cases hcl : clB xss row k
        · have Hn := Lib.hid (setOf_miss _ _ hcl)
          have hd : (digZ row ((xss.getD k []).getD 2 0) != (xss.getD k []).getD 3 0) = false := hcl
          have hd2 : (digZ row ((xss.getD k []).getD 2 0) == (xss.getD k []).getD 3 0) = true := by simpa using hd
          clear hcl
          generalize (xss.getD k []).getD 0 0 = x0 at *
          generalize (xss.getD k []).getD 1 0 = x1 at *
          generalize (xss.getD k []).getD 2 0 = x2 at *
          generalize (xss.getD k []).getD 3 0 = x3 at *
          generalize setOf (clB xss row) k = sk at *
          go_wp2_with fail
          go_quiet ((go_at_call 75; exact quiet1 (digitAt_any _ _ _ r0 r1 (by omega) (by omega))))
          go_wp2_with fail
          go_roundw
          case rel => exact ⟨k + 1, by omega, by go_num, by rw [Hn.out], Bdrew (hL.alloc hz _) _⟩
          case measure => simp [intOf]; omega
        · have Hn := Lib.hid (or_walk _ k hlt63 (by omega))
          rw [setOf_hit _ _ hcl] at Hn
          have hd : (digZ row ((xss.getD k []).getD 2 0) != (xss.getD k []).getD 3 0) = true := hcl
          have hd2 : (digZ row ((xss.getD k []).getD 2 0) == (xss.getD k []).getD 3 0) = false := by simpa using hd
          clear hcl
          generalize (xss.getD k []).getD 0 0 = x0 at *
          generalize (xss.getD k []).getD 1 0 = x1 at *
          generalize (xss.getD k []).getD 2 0 = x2 at *
          generalize (xss.getD k []).getD 3 0 = x3 at *
          generalize setOf (clB xss row) k = sk at *
          go_wp2_with fail
          go_quiet ((go_at_call 75; exact quiet1 (digitAt_any _ _ _ r0 r1 (by omega) (by omega))))
          go_wp2_with fail
          go_roundw
          case rel => exact ⟨k + 1, by omega, by go_num, by rw [← Hn.out], Bdrew (hL.alloc hz _) _⟩
          case measure => simp [intOf]; omega
      · have e : k = n := by omega
        subst e
        go_wp2_with fail
        go_ret
        exact ⟨by rw [HE.out]; rfl, hL⟩

end Go.Proofs.Ytkdidplpnhokiaa
