/- The errors of networks, rows and points: the model's. -/
import Derived.Test.YtlihnknlpbokiabSNet
import Derived.Test.YtlihnknlpbokiabClosedM
namespace Go.Proofs.Ytlihnknlpbokiab
open Go.RowKit
set_option linter.unusedVariables false

theorem l02Is_b (p : Int) (v : Value) (xss : List (List Int)) (w : World) (ha : Reads2 w v xss) {b : Bool} (hb : decide (Net p xss) = b) :
    Calls Try.prog 56 #[.agg #[.int .i64 p, v]] w fun e w' => e = .returned (.bool b) ∧ Below w.heap.size w w' := by
  have := l02Is_any p v xss w ha
  rwa [hb] at this

set_option maxRecDepth 100000 in
set_option maxHeartbeats 2000000 in
theorem l02Code_any (p row : Int) (v pv : Value) (xss : List (List Int)) (pts : List Int) (w : World) (ha : Reads2 w v xss) (hp : Reads w pv pts) :
    Calls Try.prog 43 #[.agg #[.int .i64 p, v], .int .i64 row, pv] w fun e w' => e = .returned (.int .i64 (netCode p xss row pts)) ∧ Below w.heap.size w w' := by
  have HR := Lib.hid (ha.keep ((Below.refl _ _).alloc (Nat.le_refl _) (.cells #[.int .i64 p, v] 30)))
  obtain ⟨a, ca, rfl, hm, _⟩ := ha
  have k0 := C2.here w (.int .i64 p) (.slice a xss.length ca) 30
  obtain ⟨pa, pc, rfl, hpm, hp⟩ := hp
  unfold maxLen at hpm
  by_cases hN : Net p xss
  · have HN : Hid (decide (Net p xss) = true) := decide_eq_true hN
    by_cases hr : 0 ≤ row ∧ row ≤ 31
    · have Hr := Lib.hid hr
      have hw2 : IntKind.i64.wrap (p - 1) = p - 1 := IntWalk.i64_in _ (by have := hN.1; have := hN.2.1; omega)
      obtain ⟨j, hj, hok, hbad⟩ := firstBad (fun i => 0 ≤ pts.getD i 0 ∧ pts.getD i 0 ≤ p - 1) pts.length
      have HB : Hid (j < pts.length → netCode p xss row pts = 2) := fun h => by unfold netCode; rw [if_pos hN, if_neg (fun hh => hbad h (hh.2 j h))]
      have HG : Hid (j = pts.length → netCode p xss row pts = 0) := fun h => by unfold netCode; rw [if_pos hN, if_pos ⟨hr, by subst h; exact hok⟩]
      have Hok := Lib.hid hok
      have Hbad := Lib.hid hbad
      clear hok hbad hr hN
      rcases hp with rfl | ⟨pb, po, rfl, hp⟩
      · have HG' : Hid (netCode p xss row [] = 0) := HG.out (by simp at hj; simp; omega)
        go_enter Try.func43, Try.ntmps43
        go_wp2_with (first | (go_at_call 44; (with_reducible refine (l01In_yes _ _ _ _ Hr.out).mono ?_); rintro e w' ⟨rfl, rfl⟩) | (go_at_call 56; (with_reducible refine (l02Is_b _ _ _ _ HR.out HN.out).mono ?_); rintro e w' ⟨rfl, hb⟩; have hL := chain (B := w.heap.size) (a := w) (by go_grown) (Nat.le_refl _) hb; replace k0 := keepAt hb k0; clear hb))
        refine wp_loop_rounds 1 ?_
        rw [rounds_succ]
        go_wp2
        go_ret
        exact ⟨by rw [HG'.out]; rfl, hL⟩
      · have Hp := Lib.hid hp
        clear hp
        generalize hnn : pts.length = m at *
        clear hnn
        go_enter Try.func43, Try.ntmps43
        go_wp2_with (first | (go_at_call 44; (with_reducible refine (l01In_yes _ _ _ _ Hr.out).mono ?_); rintro e w' ⟨rfl, rfl⟩) | (go_at_call 56; (with_reducible refine (l02Is_b _ _ _ _ HR.out HN.out).mono ?_); rintro e w' ⟨rfl, hb⟩; have hL := chain (B := w.heap.size) (a := w) (by go_grown) (Nat.le_refl _) hb; replace k0 := keepAt hb k0; clear hb))
        go_loopw [7] (fun c wr => ∃ k : Nat, k ≤ j ∧ c = .int .i64 (k : Int) ∧ Below w.heap.size w wr ∧ C2 wr w.heap.size (.int .i64 p) (.slice a xss.length ca)) (fun c _ => m - (intOf c).toNat)
        case atStart => exact ⟨0, Nat.zero_le _, rfl, hL, k0⟩
        case round =>
          clear k0 hL
          obtain ⟨k, hk, rfl, hL, k0⟩ := hrel
          by_cases hlt : k < m
          · have hca := cell_later hL (Hp.out k hlt)
            have hi1 : (k : Int) < (m : Int) := by omega
            have hi0 : (0 : Int) ≤ (k : Int) := by omega
            by_cases hin : 0 ≤ pts.getD k 0 ∧ pts.getD k 0 ≤ p - 1
            · have Hin := Lib.hid hin
              have hkj : k < j := by
                rcases Nat.lt_or_ge k j with h1 | h1
                · exact h1
                · have e : k = j := by omega
                  subst e
                  exact absurd hin (Hbad.out hlt)
              clear hin
              generalize pts.getD k 0 = x at *
              go_wp2_with fail
              go_quiet ((go_at_call 44; exact quiet1 (l01In_yes _ _ _ _ Hin.out)))
              go_wp2_with fail
              go_roundw
              case rel => exact ⟨k + 1, by omega, by go_num, Bdrew hL _, k0⟩
              case measure => simp [intOf]; omega
            · have Hin := Lib.hid hin
              have hr : Hid (netCode p xss row pts = 2) := HB.out (by
                rcases Nat.lt_or_ge k j with h1 | h1
                · exact absurd (Hok.out k h1) hin
                · omega)
              clear hin
              generalize pts.getD k 0 = x at *
              go_wp2_with fail
              go_quiet ((go_at_call 44; exact quiet1 (l01In_no _ _ _ _ Hin.out)))
              go_wp2_with fail
              go_ret
              exact ⟨by rw [hr.out]; rfl, Bdrew hL _⟩
          · have hr : Hid (netCode p xss row pts = 0) := HG.out (by omega)
            have hge : ¬ (k : Int) < (m : Int) := by omega
            clear hj hk hlt
            go_wp2_with fail
            go_ret
            exact ⟨by rw [hr.out]; rfl, hL⟩
    · have Hr := Lib.hid hr
      have hres : Hid (netCode p xss row pts = 2) := by unfold Hid netCode; rw [if_pos hN, if_neg (fun hh => hr hh.1)]
      clear hr hN hp
      go_enter Try.func43, Try.ntmps43
      go_wp2_with (first | (go_at_call 44; (with_reducible refine (l01In_no _ _ _ _ Hr.out).mono ?_); rintro e w' ⟨rfl, rfl⟩) | (go_at_call 56; (with_reducible refine (l02Is_b _ _ _ _ HR.out HN.out).mono ?_); rintro e w' ⟨rfl, hb⟩; have hL := chain (B := w.heap.size) (a := w) (by go_grown) (Nat.le_refl _) hb; replace k0 := keepAt hb k0; clear hb))
      go_ret
      exact ⟨by rw [hres.out]; rfl, hL⟩
  · have HN : Hid (decide (Net p xss) = false) := decide_eq_false hN
    have hres : Hid (netCode p xss row pts = 1) := by unfold Hid netCode; rw [if_neg hN]
    clear hN hp
    go_enter Try.func43, Try.ntmps43
    go_wp2_with (go_at_call 56; (with_reducible refine (l02Is_b _ _ _ _ HR.out HN.out).mono ?_); rintro e w' ⟨rfl, hb⟩; have hL := chain (B := w.heap.size) (a := w) (by go_grown) (Nat.le_refl _) hb; clear hb)
    go_ret
    exact ⟨by rw [hres.out]; rfl, hL⟩
theorem l02Code_b (p row : Int) (v pv : Value) (xss : List (List Int)) (pts : List Int) (w : World) (ha : Reads2 w v xss) (hp : Reads w pv pts) {z : Int} (hz : netCode p xss row pts = z) :
    Calls Try.prog 43 #[.agg #[.int .i64 p, v], .int .i64 row, pv] w fun e w' => e = .returned (.int .i64 z) ∧ Below w.heap.size w w' := by
  have := l02Code_any p row v pv xss pts w ha hp
  rwa [hz] at this

end Go.Proofs.Ytlihnknlpbokiab
