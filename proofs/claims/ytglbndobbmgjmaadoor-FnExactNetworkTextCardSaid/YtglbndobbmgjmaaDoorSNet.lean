/- IsNetwork: the model's. -/
import Derived.Test.YtglbndobbmgjmaaDoorNet1
namespace Go.Proofs.YtglbndobbmgjmaaDoor
open Go.RowKit
set_option linter.unusedVariables false

set_option maxRecDepth 100000 in
set_option maxHeartbeats 4000000 in
theorem l02Is_any (p : Int) (v : Value) (xss : List (List Int)) (w : World) (ha : Reads2 w v xss) :
    Calls Tryd.prog 10 #[.agg #[.int .i64 p, v]] w fun e w' => e = .returned (.bool (decide (Net p xss))) ∧ Below w.heap.size w w' := by
  obtain ⟨a, ca, rfl, hm, ha⟩ := ha
  unfold maxLen at hm
  have k0 := C2.here w (.int .i64 p) (.slice a xss.length ca) 28
  by_cases h2 : 2 ≤ p ∧ p ≤ 8
  · have H2 := Lib.hid h2
    obtain ⟨h2, h8⟩ := h2
    by_cases h12 : 12 < xss.length
    · have hr : Hid (decide (Net p xss) = false) := decide_eq_false fun h => by have := h.2.2.1; omega
      have h12' : (12 : Int) < (xss.length : Int) := by omega
      clear ha
      go_enter Tryd.func10, Tryd.ntmps10
      go_wp2_with ((go_at_call 19; (with_reducible refine (l01In_yes _ _ _ _ H2.out).mono ?_); rintro e w' ⟨rfl, rfl⟩))
      go_ret
      exact ⟨by rw [hr.out]; rfl, by go_grown⟩
    · have h12' : ¬ (12 : Int) < (xss.length : Int) := by omega
      rcases ha with rfl | ⟨b, off, rfl, ha⟩
      · have hr : Hid (decide (Net p []) = true) := decide_eq_true ⟨by omega, by omega, by simp, fun i hi => by simp at hi⟩
        go_enter Tryd.func10, Tryd.ntmps10
        go_wp2_with ((go_at_call 19; (with_reducible refine (l01In_yes _ _ _ _ H2.out).mono ?_); rintro e w' ⟨rfl, rfl⟩))
        refine wp_loop_rounds 1 ?_
        rw [rounds_succ]
        go_wp2
        go_ret
        exact ⟨by rw [hr.out]; rfl, by go_grown⟩
      · obtain ⟨j, hj, hok, hbad⟩ := firstBad (okC p xss) xss.length
        have HB : Hid (∀ i, i < xss.length → ¬ okC p xss i → decide (Net p xss) = false) := fun i hi h => net_false hi h
        have HG : Hid (j = xss.length → decide (Net p xss) = true) := fun h => decide_eq_true ⟨by omega, by omega, by omega, by subst h; exact hok⟩
        have Ha := Lib.hid ha
        have Hok := Lib.hid hok
        have Hbad := Lib.hid hbad
        have hw2 : IntKind.i64.wrap (p - 1) = p - 1 := IntWalk.i64_in _ (by omega)
        clear ha hok hbad
        generalize hnn : xss.length = n at *
        clear hnn
        go_enter Tryd.func10, Tryd.ntmps10
        go_wp2_with ((go_at_call 19; (with_reducible refine (l01In_yes _ _ _ _ H2.out).mono ?_); rintro e w' ⟨rfl, rfl⟩))
        go_loopw [3] (fun c wr => ∃ k : Nat, k ≤ j ∧ c = .int .i64 (k : Int) ∧ Below w.heap.size w wr ∧ C2 wr w.heap.size (.int .i64 p) (.slice (some ⟨b, off, none⟩) n ca)) (fun c _ => n - (intOf c).toNat)
        case atStart => exact ⟨0, Nat.zero_le _, rfl, by go_grown, k0⟩
        case round =>
          clear k0
          obtain ⟨k, hk, rfl, hL, k0⟩ := hrel
          by_cases hlt : k < n
          · obtain ⟨u, hu, hr⟩ := Ha.out k hlt
            have hca := cell_later hL hu
            have HR := Lib.hid (hr.keep hL)
            have hi1 : (k : Int) < (n : Int) := by omega
            have hi0 : (0 : Int) ≤ (k : Int) := by omega
            have HOK : Hid (okC p xss k ↔ Con p (xss.getD k []) ∧ (0 < k → 0 ≤ cmpL (xss.getD k []) (xss.getD (k - 1) []))) := Iff.rfl
            have HKB : Hid (¬ okC p xss k → decide (Net p xss) = false) := HB.out k hlt
            have HKG : Hid (okC p xss k → k < j) := fun h => by
              rcases Nat.lt_or_ge k j with h1 | h1
              · exact h1
              · have e : k = j := by omega
                subst e
                exact absurd h (Hbad.out hlt)
            clear hu hr
            generalize hcc : xss.getD k [] = c at *
            clear hcc
            obtain ⟨ua, uc, rfl, hlm, hce⟩ := HR.out
            unfold maxLen at hlm
            by_cases hl4 : c.length = 4
            · obtain ⟨x0, x1, x2, x3, rfl⟩ := list4 hl4
              rcases hce with hce | ⟨cb, co, rfl, hce⟩
              · cases hce
              · have c0 : wr.cell? ⟨cb, co, none⟩ = some (.int .i64 x0) := by simpa using hce 0 (by simp)
                have c1 : wr.cell? ⟨cb, co + 1, none⟩ = some (.int .i64 x1) := by simpa using hce 1 (by simp)
                have c2 : wr.cell? ⟨cb, co + 2, none⟩ = some (.int .i64 x2) := by simpa using hce 2 (by simp)
                have c3 : wr.cell? ⟨cb, co + 3, none⟩ = some (.int .i64 x3) := by simpa using hce 3 (by simp)
                clear hce hl4
                by_cases b0 : 0 ≤ x0 ∧ x0 ≤ p - 1
                · have B0 := Lib.hid b0
                  by_cases b1 : 0 ≤ x1 ∧ x1 ≤ p - 1
                  · have B1 := Lib.hid b1
                    by_cases b2 : x0 < x1
                    · have d2 : decide (x1 ≤ x0) = false := decide_eq_false (by omega)
                      by_cases b3 : 0 ≤ x2 ∧ x2 ≤ 4
                      · have B3 := Lib.hid b3
                        by_cases b4 : 0 ≤ x3 ∧ x3 ≤ 1
                        · have B4 := Lib.hid b4
                          have HC : Hid (Con p [x0, x1, x2, x3]) := by unfold Hid; rw [con_iff]; omega
                          clear b0 b1 b2 b3 b4
                          rcases Nat.eq_zero_or_pos k with hz | hp
                          · subst hz
                            have hkj := HKG.out (HOK.out.2 ⟨HC.out, fun h => absurd h (Nat.lt_irrefl _)⟩)
                            simp only [Nat.add_zero] at hca
                            go_wp2_with fail
                            go_quiet ((first | (go_at_call 19; exact quiet1 (l01In_yes _ _ _ _ B0.out)) | (go_at_call 19; exact quiet1 (l01In_yes _ _ _ _ B1.out))))
                            go_wp2_with (first | (go_at_call 19; (with_reducible refine (l01In_yes _ _ _ _ B3.out).mono ?_); rintro e w' ⟨rfl, rfl⟩) | (go_at_call 19; (with_reducible refine (l01In_yes _ _ _ _ B4.out).mono ?_); rintro e w' ⟨rfl, rfl⟩))
                            go_roundw
                            case rel => exact ⟨0 + 1, by omega, by go_num, Bdrew hL _, k0⟩
                            case measure => simp [intOf]; omega
                          · obtain ⟨u', hu', hr'⟩ := Ha.out (k - 1) (by omega)
                            have hcp := cell_later hL hu'
                            have HR' := Lib.hid (hr'.keep hL)
                            have hp1 : (0 : Int) < (k : Int) := by omega
                            have hp2 : (0 : Int) ≤ (k : Int) - 1 := by omega
                            have hp3 : (k : Int) - 1 < (n : Int) := by omega
                            have hp4 : ((k : Int) - 1).toNat = k - 1 := by omega
                            have L2 : Hid ((xss.getD (k - 1) []).length = 4) := (Hok.out (k - 1) (by omega)).1.1
                            have HR4 : Hid (Reads wr (.slice (some ⟨cb, co, none⟩) 4 uc) [x0, x1, x2, x3]) := HR.out
                            have L1 : Hid ([x0, x1, x2, x3].length = 4) := rfl
                            clear hu' hr'
                            generalize xss.getD (k - 1) [] = c' at *
                            by_cases hcmp : cmpL [x0, x1, x2, x3] c' < 0
                            · have hr : Hid (decide (Net p xss) = false) := HKB.out (fun h => by have := (HOK.out.1 h).2 hp; omega)
                              have HZ : Hid (decide (cmpL [x0, x1, x2, x3] c' < 0) = true) := decide_eq_true hcmp
                              clear hcmp
                              go_wp2_with fail
                              go_quiet ((first | (go_at_call 19; exact quiet1 (l01In_yes _ _ _ _ B0.out)) | (go_at_call 19; exact quiet1 (l01In_yes _ _ _ _ B1.out))))
                              go_wp2_with (first | (go_at_call 19; (with_reducible refine (l01In_yes _ _ _ _ B3.out).mono ?_); rintro e w' ⟨rfl, rfl⟩) | (go_at_call 19; (with_reducible refine (l01In_yes _ _ _ _ B4.out).mono ?_); rintro e w' ⟨rfl, rfl⟩) | (go_at_call 20; (with_reducible refine (before4 _ _ _ _ _ (HR4.out.keep (Bdrew (Below.refl _ _) _)) (HR'.out.keep (Bdrew (Below.refl _ _) _)) L1.out L2.out HZ.out).mono ?_); rintro e w' ⟨rfl, hb⟩; have hL' := chain (B := w.heap.size) (a := w) (Bdrew hL _) (Nat.le_refl _) hb; replace k0 := keepAt hb k0; clear hb))
                              go_ret
                              exact ⟨by rw [hr.out]; rfl, hL'⟩
                            · have hkj := HKG.out (HOK.out.2 ⟨HC.out, fun _ => by omega⟩)
                              have HZ : Hid (decide (cmpL [x0, x1, x2, x3] c' < 0) = false) := decide_eq_false hcmp
                              clear hcmp
                              go_wp2_with fail
                              go_quiet ((first | (go_at_call 19; exact quiet1 (l01In_yes _ _ _ _ B0.out)) | (go_at_call 19; exact quiet1 (l01In_yes _ _ _ _ B1.out))))
                              go_wp2_with (first | (go_at_call 19; (with_reducible refine (l01In_yes _ _ _ _ B3.out).mono ?_); rintro e w' ⟨rfl, rfl⟩) | (go_at_call 19; (with_reducible refine (l01In_yes _ _ _ _ B4.out).mono ?_); rintro e w' ⟨rfl, rfl⟩) | (go_at_call 20; (with_reducible refine (before4 _ _ _ _ _ (HR4.out.keep (Bdrew (Below.refl _ _) _)) (HR'.out.keep (Bdrew (Below.refl _ _) _)) L1.out L2.out HZ.out).mono ?_); rintro e w' ⟨rfl, hb⟩; have hL' := chain (B := w.heap.size) (a := w) (Bdrew hL _) (Nat.le_refl _) hb; replace k0 := keepAt hb k0; clear hb))
                              go_roundw
                              case rel => exact ⟨k + 1, by omega, by go_num, hL', k0⟩
                              case measure => simp [intOf]; omega
                        · have B4 := Lib.hid b4
                          have hr : Hid (decide (Net p xss) = false) := HKB.out (fun h => by have := (HOK.out.1 h).1; rw [con_iff] at this; omega)
                          clear b0 b1 b2 b3 b4
                          go_wp2_with fail
                          go_quiet ((first | (go_at_call 19; exact quiet1 (l01In_yes _ _ _ _ B0.out)) | (go_at_call 19; exact quiet1 (l01In_yes _ _ _ _ B1.out))))
                          go_wp2_with (first | (go_at_call 19; (with_reducible refine (l01In_yes _ _ _ _ B3.out).mono ?_); rintro e w' ⟨rfl, rfl⟩) | (go_at_call 19; (with_reducible refine (l01In_no _ _ _ _ B4.out).mono ?_); rintro e w' ⟨rfl, rfl⟩))
                          go_ret
                          exact ⟨by rw [hr.out]; rfl, by first | exact Bdrew hL _ | go_grown⟩
                      · have B3 := Lib.hid b3
                        have hr : Hid (decide (Net p xss) = false) := HKB.out (fun h => by have := (HOK.out.1 h).1; rw [con_iff] at this; omega)
                        clear b0 b1 b2 b3
                        go_wp2_with fail
                        go_quiet ((first | (go_at_call 19; exact quiet1 (l01In_yes _ _ _ _ B0.out)) | (go_at_call 19; exact quiet1 (l01In_yes _ _ _ _ B1.out))))
                        go_wp2_with (first | (go_at_call 19; (with_reducible refine (l01In_no _ _ _ _ B3.out).mono ?_); rintro e w' ⟨rfl, rfl⟩))
                        go_ret
                        exact ⟨by rw [hr.out]; rfl, by first | exact Bdrew hL _ | go_grown⟩
                    · have d2 : decide (x1 ≤ x0) = true := decide_eq_true (by omega)
                      have hr : Hid (decide (Net p xss) = false) := HKB.out (fun h => by have := (HOK.out.1 h).1; rw [con_iff] at this; omega)
                      clear b0 b1 b2
                      go_wp2_with fail
                      go_quiet ((first | (go_at_call 19; exact quiet1 (l01In_yes _ _ _ _ B0.out)) | (go_at_call 19; exact quiet1 (l01In_yes _ _ _ _ B1.out))))
                      go_wp2_with fail
                      go_ret
                      exact ⟨by rw [hr.out]; rfl, by first | exact Bdrew hL _ | go_grown⟩
                  · have B1 := Lib.hid b1
                    have hr : Hid (decide (Net p xss) = false) := HKB.out (fun h => by have := (HOK.out.1 h).1; rw [con_iff] at this; omega)
                    clear b0 b1
                    go_wp2_with fail
                    go_quiet ((first | (go_at_call 19; exact quiet1 (l01In_yes _ _ _ _ B0.out)) | (go_at_call 19; exact quiet1 (l01In_no _ _ _ _ B1.out))))
                    go_wp2_with fail
                    go_ret
                    exact ⟨by rw [hr.out]; rfl, by first | exact Bdrew hL _ | go_grown⟩
                · have B0 := Lib.hid b0
                  have hr : Hid (decide (Net p xss) = false) := HKB.out (fun h => by have := (HOK.out.1 h).1; rw [con_iff] at this; omega)
                  clear b0
                  go_wp2_with fail
                  go_quiet ((first | (go_at_call 19; exact quiet1 (l01In_no _ _ _ _ B0.out))))
                  go_wp2_with fail
                  go_ret
                  exact ⟨by rw [hr.out]; rfl, by first | exact Bdrew hL _ | go_grown⟩
            · have hr : Hid (decide (Net p xss) = false) := HKB.out (fun h => hl4 (HOK.out.1 h).1.1)
              have hd : (((c.length : Nat) : Int) != 4) = true := by simp; omega
              have hd2 : (((c.length : Nat) : Int) == 4) = false := by simp; omega
              clear hce HR HOK hl4
              go_wp2_with fail
              go_quiet (fail)
              go_wp2_with fail
              go_ret
              exact ⟨by rw [hr.out]; rfl, by first | exact Bdrew hL _ | go_grown⟩
          · have hr : Hid (decide (Net p xss) = true) := HG.out (by omega)
            have hge : ¬ (k : Int) < (n : Int) := by omega
            clear hj hk hlt
            go_wp2_with fail
            go_ret
            exact ⟨by rw [hr.out]; rfl, hL⟩
  · have hr : Hid (decide (Net p xss) = false) := decide_eq_false fun h => h2 ⟨h.1, h.2.1⟩
    have H2 := Lib.hid h2
    clear ha h2
    go_enter Tryd.func10, Tryd.ntmps10
    go_wp2_with ((go_at_call 19; (with_reducible refine (l01In_no _ _ _ _ H2.out).mono ?_); rintro e w' ⟨rfl, rfl⟩))
    go_ret
    exact ⟨by rw [hr.out]; rfl, by go_grown⟩

end Go.Proofs.YtglbndobbmgjmaaDoor
