/- IsNetwork: the program's. -/
import Derived.Test.YtglbndobbmgjmaaDoorCmp
namespace Go.Proofs.YtglbndobbmgjmaaDoor
open Go.RowKit
set_option linter.unusedVariables false

theorem net_false {p : Int} {xss : List (List Int)} {j : Nat} (hj : j < xss.length) (hb : ¬ okC p xss j) : decide (Net p xss) = false :=
  decide_eq_false fun h => hb (h.2.2.2 j hj)

set_option maxRecDepth 100000 in
set_option maxHeartbeats 2000000 in
theorem isNetwork_any (p : Int) (v : Value) (xss : List (List Int)) (w : World) (ha : Reads2 w v xss) :
    Calls Tryd.prog 13 #[.agg #[.int .i64 p, v]] w fun e w' => e = .returned (.bool (decide (Net p xss))) ∧ Below w.heap.size w w' := by
  obtain ⟨a, ca, rfl, hm, ha⟩ := ha
  unfold maxLen at hm
  have k0 := C2.here w (.int .i64 p) (.slice a xss.length ca) 28
  by_cases h2 : p < 2
  · have hr : Hid (decide (Net p xss) = false) := decide_eq_false fun h => by have := h.1; omega
    clear ha
    go_enter Tryd.func13, Tryd.ntmps13
    go_wp2_with fail
    go_ret
    exact ⟨by rw [hr.out]; rfl, by go_grown⟩
  · by_cases h8 : 8 < p
    · have hr : Hid (decide (Net p xss) = false) := decide_eq_false fun h => by have := h.2.1; omega
      clear ha
      go_enter Tryd.func13, Tryd.ntmps13
      go_wp2_with fail
      go_ret
      exact ⟨by rw [hr.out]; rfl, by go_grown⟩
    · by_cases h12 : 12 < xss.length
      · have hr : Hid (decide (Net p xss) = false) := decide_eq_false fun h => by have := h.2.2.1; omega
        have h12' : (12 : Int) < (xss.length : Int) := by omega
        clear ha
        go_enter Tryd.func13, Tryd.ntmps13
        go_wp2_with fail
        go_ret
        exact ⟨by rw [hr.out]; rfl, by go_grown⟩
      · have h12' : ¬ (12 : Int) < (xss.length : Int) := by omega
        rcases ha with rfl | ⟨b, off, rfl, ha⟩
        · have hr : Hid (decide (Net p []) = true) := decide_eq_true ⟨by omega, by omega, by simp, fun i hi => by simp at hi⟩
          go_enter Tryd.func13, Tryd.ntmps13
          go_wp2_with fail
          refine wp_loop_rounds 1 ?_
          rw [rounds_succ]
          go_wp2
          go_ret
          exact ⟨by rw [hr.out]; rfl, by go_grown⟩
        · obtain ⟨j, hj, hok, hbad⟩ := firstBad (okC p xss) xss.length
          have HB : Hid (j < xss.length → decide (Net p xss) = false) := fun h => net_false h (hbad h)
          have HG : Hid (j = xss.length → decide (Net p xss) = true) := fun h => decide_eq_true ⟨by omega, by omega, by omega, by subst h; exact hok⟩
          have Ha := Lib.hid ha
          have Hok := Lib.hid hok
          have Hbad := Lib.hid hbad
          clear ha hok hbad
          generalize hnn : xss.length = n at *
          clear hnn
          go_enter Tryd.func13, Tryd.ntmps13
          go_wp2_with fail
          go_loopw [22] (fun c wr => ∃ k : Nat, k ≤ j ∧ c = .int .i64 (k : Int) ∧ Below w.heap.size w wr ∧ C2 wr w.heap.size (.int .i64 p) (.slice (some ⟨b, off, none⟩) n ca)) (fun c _ => n - (intOf c).toNat)
          case atStart => exact ⟨0, Nat.zero_le _, rfl, by go_grown, k0⟩
          case round =>
            clear k0
            obtain ⟨k, hk, rfl, hL, k0⟩ := hrel
            by_cases hlt : k < n
            · obtain ⟨u, hu, hr⟩ := Ha.out k hlt
              have hca := cell_later hL hu
              have HR := Lib.hid (hr.keep hL)
              have hi1 : (k : Int) < (n : Int) := by omega
              have hi0 : (0 : Int) ≤ (k : Int) := by omega
              clear hu hr
              by_cases hc : Con p (xss.getD k [])
              · have HT : Hid (decide (Con p (xss.getD k [])) = true) := decide_eq_true hc
                rcases Nat.eq_zero_or_pos k with hz | hp
                · subst hz
                  have hkj : 0 < j := by
                    rcases Nat.lt_or_ge 0 j with h | h
                    · exact h
                    · have e : j = 0 := by omega
                      subst e
                      exact absurd ⟨hc, fun h => absurd h (Nat.lt_irrefl _)⟩ (Hbad.out hlt)
                  clear hc
                  simp only [Nat.add_zero] at hca
                  go_wp2_with (go_at_call 23; (with_reducible refine (isContact_b _ _ _ _ HR.out HT.out).mono ?_); rintro e w' ⟨rfl, hb⟩; have hL' := chain (B := w.heap.size) (a := w) hL (Nat.le_refl _) hb; replace k0 := keepAt hb k0; clear hb)
                  go_roundw
                  case rel => exact ⟨0 + 1, by omega, by go_num, hL', k0⟩
                  case measure => simp [intOf]; omega
                · obtain ⟨u', hu', hr'⟩ := Ha.out (k - 1) (by omega)
                  have hcp := cell_later hL hu'
                  have HR' := Lib.hid (hr'.keep hL)
                  have hp1 : (0 : Int) < (k : Int) := by omega
                  have hp2 : (0 : Int) ≤ (k : Int) - 1 := by omega
                  have hp3 : (k : Int) - 1 < (n : Int) := by omega
                  have hp4 : ((k : Int) - 1).toNat = k - 1 := by omega
                  have hprev := Hok.out (k - 1) (by omega)
                  have L1 : Hid ((xss.getD k []).length = 4) := hc.1
                  have L2 : Hid ((xss.getD (k - 1) []).length = 4) := hprev.1.1
                  clear hu' hr' hprev
                  by_cases hcmp : cmpL (xss.getD k []) (xss.getD (k - 1) []) < 0
                  · have hkj : k = j := by
                      rcases Nat.lt_or_ge k j with h | h
                      · exact absurd ((Hok.out k h).2 hp) (by omega)
                      · omega
                    have hr : Hid (decide (Net p xss) = false) := HB.out (by omega)
                    clear hc hkj
                    generalize hg : cmpL (xss.getD k []) (xss.getD (k - 1) []) = z at hcmp
                    have HG' := Lib.hid hg
                    clear hg
                    go_wp2_with (first | (go_at_call 23; (with_reducible refine (isContact_b _ _ _ _ HR.out HT.out).mono ?_); rintro e w' ⟨rfl, hb⟩; have hL' := chain (B := w.heap.size) (a := w) hL (Nat.le_refl _) hb; replace k0 := keepAt hb k0; have HR1 := Lib.hid (HR.out.keep hb); have HR2 := Lib.hid (HR'.out.keep hb); replace hca := cell_later hb hca; replace hcp := cell_later hb hcp; clear hb) | (go_at_call 24; (with_reducible refine (compare4 _ _ _ _ _ HR1.out HR2.out L1.out L2.out HG'.out).mono ?_); rintro e w' ⟨rfl, rfl⟩))
                    go_ret
                    exact ⟨by rw [hr.out]; rfl, hL'⟩
                  · have hkj : k < j := by
                      rcases Nat.lt_or_ge k j with h | h
                      · exact h
                      · have e : k = j := by omega
                        subst e
                        exact absurd ⟨hc, fun _ => by omega⟩ (Hbad.out hlt)
                    clear hc
                    generalize hg : cmpL (xss.getD k []) (xss.getD (k - 1) []) = z at hcmp
                    have HG' := Lib.hid hg
                    clear hg
                    go_wp2_with (first | (go_at_call 23; (with_reducible refine (isContact_b _ _ _ _ HR.out HT.out).mono ?_); rintro e w' ⟨rfl, hb⟩; have hL' := chain (B := w.heap.size) (a := w) hL (Nat.le_refl _) hb; replace k0 := keepAt hb k0; have HR1 := Lib.hid (HR.out.keep hb); have HR2 := Lib.hid (HR'.out.keep hb); replace hca := cell_later hb hca; replace hcp := cell_later hb hcp; clear hb) | (go_at_call 24; (with_reducible refine (compare4 _ _ _ _ _ HR1.out HR2.out L1.out L2.out HG'.out).mono ?_); rintro e w' ⟨rfl, rfl⟩))
                    go_roundw
                    case rel => exact ⟨k + 1, by omega, by go_num, hL', k0⟩
                    case measure => simp [intOf]; omega
              · have HT : Hid (decide (Con p (xss.getD k [])) = false) := decide_eq_false hc
                have hkj : k = j := by
                  rcases Nat.lt_or_ge k j with h | h
                  · exact absurd (Hok.out k h).1 hc
                  · omega
                have hr : Hid (decide (Net p xss) = false) := HB.out (by omega)
                clear hc hkj
                go_wp2_with (go_at_call 23; (with_reducible refine (isContact_b _ _ _ _ HR.out HT.out).mono ?_); rintro e w' ⟨rfl, hb⟩; have hL' := chain (B := w.heap.size) (a := w) hL (Nat.le_refl _) hb; replace k0 := keepAt hb k0; clear hb)
                go_ret
                exact ⟨by rw [hr.out]; rfl, hL'⟩
            · have hr : Hid (decide (Net p xss) = true) := HG.out (by omega)
              have hge : ¬ (k : Int) < (n : Int) := by omega
              clear hj hk hlt
              go_wp2_with fail
              go_ret
              exact ⟨by rw [hr.out]; rfl, hL⟩

end Go.Proofs.YtglbndobbmgjmaaDoor
