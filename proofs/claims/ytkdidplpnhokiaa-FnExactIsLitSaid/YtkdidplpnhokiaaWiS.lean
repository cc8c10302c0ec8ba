/- IsWiring: the model's. -/
import Derived.Test.YtkdidplpnhokiaaWiJ
import Derived.Test.YtkdidplpnhokiaaFstW
namespace Go.Proofs.Ytkdidplpnhokiaa
open Go.RowKit
set_option linter.unusedVariables false

theorem wir_false {p : Int} {xs : List Int} {yss : List (List Int)} {j : Nat} (hj : j < yss.length) (hb : ¬ okW p yss j) : wirB p xs yss = false :=
  decide_eq_false fun h => hb (h.2.2.2 j hj)

set_option maxRecDepth 100000 in
set_option maxHeartbeats 8000000 in
/-- the model's second loop: the wires -/
theorem l10Is_any (v : Value) (p : Int) (xs : List Int) (yss : List (List Int)) (w : World) (ha : ReadsW w v p xs yss) {bb : Bool} (hbb : wirB p xs yss = bb) :
    Calls Try.prog 56 #[v] w fun e w' => e = .returned (.bool bb) ∧ Below w.heap.size w w' := by
  obtain ⟨a, ca, b', cb, rfl, h1, h2⟩ := ha
  have HX : Hid (∀ k, k < xs.length → ∃ b off, a = some ⟨b, off, none⟩ ∧ w.cell? ⟨b, off + k, none⟩ = some (.int .i64 (xs.getD k 0))) := fun k hk => h1.cellW hk
  have HY : Hid (∀ k, k < yss.length → ∃ b off u, b' = some ⟨b, off, none⟩ ∧ w.cell? ⟨b, off + k, none⟩ = some u ∧ Reads w u (yss.getD k [])) := fun k hk => h2.cellW hk
  have hm1 : xs.length ≤ 2 ^ 63 - 1 := by obtain ⟨_, _, _, hm, _⟩ := h1; exact hm
  have hm2 : yss.length ≤ 2 ^ 63 - 1 := by obtain ⟨_, _, _, hm, _⟩ := h2; exact hm
  have h0 := C3.here w (.int .i64 p) (.slice a xs.length ca) (.slice b' yss.length cb) 28
  have hL0 : Below w.heap.size w (w.alloc (.cells #[.int .i64 p, .slice a xs.length ca, .slice b' yss.length cb] 28)) := by go_grown
  clear h1 h2
  by_cases hlo : xs.length < 1
  · have HB : Hid (bb = false) := by rw [Hid, ← hbb]; exact decide_eq_false fun h => by have := h.1.1.1; omega
    have hd : (xs.length : Int) < 1 := by omega
    clear hbb HX HY
    generalize xs.length = n at *
    generalize yss.length = m at *
    go_enter Try.func56, Try.ntmps56
    go_wp2_with fail
    go_ret
    exact ⟨by rw [HB.out]; rfl, hL0⟩
  · by_cases hhi : 5 < xs.length
    · have HB : Hid (bb = false) := by rw [Hid, ← hbb]; exact decide_eq_false fun h => by have := h.1.1.2; omega
      have hd : ¬ (xs.length : Int) < 1 := by omega
      have hd2 : (5 : Int) < (xs.length : Int) := by omega
      clear hbb HX HY
      generalize xs.length = n at *
      generalize yss.length = m at *
      go_enter Try.func56, Try.ntmps56
      go_wp2_with fail
      go_ret
      exact ⟨by rw [HB.out]; rfl, hL0⟩
    · by_cases h16 : 16 < yss.length
      · have HB : Hid (bb = false) := by rw [Hid, ← hbb]; exact decide_eq_false fun h => by have := h.2.2.1; omega
        have hd : ¬ (xs.length : Int) < 1 := by omega
        have hd2 : ¬ (5 : Int) < (xs.length : Int) := by omega
        have hd3 : (16 : Int) < (yss.length : Int) := by omega
        clear hbb HX HY
        generalize xs.length = n at *
        generalize yss.length = m at *
        go_enter Try.func56, Try.ntmps56
        go_wp2_with fail
        go_ret
        exact ⟨by rw [HB.out]; rfl, hL0⟩
      · have hd : ¬ (xs.length : Int) < 1 := by omega
        have hd2 : ¬ (5 : Int) < (xs.length : Int) := by omega
        have hd3 : ¬ (16 : Int) < (yss.length : Int) := by omega
        obtain ⟨j, hj, hok, hbad⟩ := firstBad (fun i => xs.getD i 0 = 3 ∨ xs.getD i 0 = 4) xs.length
        have HBF : Hid (j < xs.length → bb = false) := fun h => by rw [← hbb]; exact decide_eq_false fun hh => hbad h (hh.1.2 j h)
        have HSW : Hid (j = xs.length → SwOk xs) := fun h => ⟨⟨by omega, by omega⟩, fun i hi => hok i (by omega)⟩
        have HOK1 : Hid (∀ i, i < j → xs.getD i 0 = 3 ∨ xs.getD i 0 = 4) := hok
        have HBAD1 : Hid (j < xs.length → ¬ (xs.getD j 0 = 3 ∨ xs.getD j 0 = 4)) := hbad
        have HST : Hid (∀ k, termZ xs (k + 1) = termZ xs k + xs.getD k 0) := fun k => rfl
        obtain ⟨j2, hj2, hok2, hbad2⟩ := firstBad (okW p yss) yss.length
        have HPF : Hid (p ≠ termZ xs xs.length → bb = false) := fun h => by rw [← hbb]; exact decide_eq_false fun hh => h hh.2.1
        have HB : Hid (∀ i, i < yss.length → ¬ okW p yss i → bb = false) := fun i hi h => by rw [← hbb]; exact wir_false hi h
        have HG : Hid (SwOk xs → p = termZ xs xs.length → j2 = yss.length → bb = true) := fun h1 h2 h3 => by rw [← hbb]; exact decide_eq_true ⟨h1, h2, by omega, by rw [← h3]; exact hok2⟩
        have Hok2 := Lib.hid hok2
        have Hbad2 := Lib.hid hbad2
        have HTB : Hid (SwOk xs → 2 ≤ termZ xs xs.length ∧ termZ xs xs.length ≤ 22) := fun h => by have := termZ_bd h (Nat.le_refl _); have := h.1.2; omega
        have HN5 : Hid (xs.length ≤ 5) := by unfold Hid; omega
        clear hbb hok hbad hok2 hbad2 hlo hhi h16 hm1
        generalize hnn : xs.length = n at *
        generalize hmm : yss.length = m at *
        clear hnn hmm
        have hn5 : n ≤ 5 := HN5.out
        go_enter Try.func56, Try.ntmps56
        go_wp2_with fail
        go_loop [3, 4] (fun s c => ∃ (k : Nat) (t : Int), k ≤ j ∧ c = .int .i64 (k : Int) ∧ s = .int .i64 t ∧ Hid (t = termZ xs k) ∧ 0 ≤ t ∧ t ≤ 2 + 4 * (k : Int)) (fun _ c => n - (intOf c).toNat)
        case atStart => exact ⟨0, 2, Nat.zero_le _, rfl, rfl, rfl, by omega, by omega⟩
        case round =>
          obtain ⟨k, t, hk, rfl, rfl, HT, ht0, ht1⟩ := hrel
          by_cases hlt : k < n
          · obtain ⟨sb, so, rfl, hca0⟩ := HX.out k hlt
            have hca := cell_later hL0 hca0
            have hi1 : (k : Int) < (n : Int) := by omega
            have hi0 : (0 : Int) ≤ (k : Int) := by omega
            have HT' : Hid (t + xs.getD k 0 = termZ xs (k + 1)) := by unfold Hid; rw [HST.out k, ← HT.out]
            by_cases hkj : k < j
            · have hx := HOK1.out k hkj
              generalize xs.getD k 0 = x at *
              have HI : Hid (3 ≤ x ∧ x ≤ 4) := by unfold Hid; omega
              have hx0 : 0 ≤ x := by omega
              have hx4 : x ≤ 4 := by omega
              clear hca0 hx
              go_wp2_with ((go_at_call 65; (with_reducible refine (l01In_yes _ _ _ _ HI.out).mono ?_); rintro e w' ⟨rfl, rfl⟩))
              go_round
              case rel => exact ⟨k + 1, t + x, by omega, by go_num, by go_num, HT', by omega, by omega⟩
              case measure => simp [intOf]; omega
            · have e : k = j := by omega
              subst e
              have hx := HBAD1.out hlt
              have HBF' := Lib.hid (HBF.out hlt)
              generalize xs.getD k 0 = x at *
              have HI : Hid (¬ (3 ≤ x ∧ x ≤ 4)) := by unfold Hid; omega
              clear hca0 hx
              go_wp2_with ((go_at_call 65; (with_reducible refine (l01In_no _ _ _ _ HI.out).mono ?_); rintro e w' ⟨rfl, rfl⟩))
              go_ret
              exact ⟨by rw [HBF'.out]; rfl, hL0⟩
          · have e : j = n := by omega
            have ek : k = n := by omega
            have HS := Lib.hid (HSW.out e)
            subst ek
            clear e
            have hge : ¬ (k : Int) < (k : Int) := by omega
            obtain ⟨NN, hNN⟩ : ∃ NN, k = NN := ⟨_, rfl⟩
            subst hNN
            by_cases hp : p = t
            · have hpt : (p != t) = false := by simp [hp]
              have HGT : Hid (j2 = m → bb = true) := fun h => HG.out HS.out (by rw [hp, HT.out]) h
              have hpb : 2 ≤ p ∧ p ≤ 22 := by have := HTB.out HS.out; rw [hp, HT.out]; exact this
              obtain ⟨hp2, hp22⟩ := hpb
              have hw2 : IntKind.i64.wrap (p - 1) = p - 1 := IntWalk.i64_in _ (by omega)
              have HPT := Lib.hid hp
              subst hp
              clear HBF HSW HOK1 HBAD1 HST HPF HG HTB HT ht0 ht1 hk hn5
              go_wp2_with fail
              go_loopw [5] (fun c wr => ∃ k' : Nat, k' ≤ j2 ∧ c = .int .i64 (k' : Int) ∧ Below w.heap.size w wr ∧ C3 wr w.heap.size (.int .i64 p) (.slice a k ca) (.slice b' m cb)) (fun c _ => m - (intOf c).toNat)
              case atStart => exact ⟨0, Nat.zero_le _, rfl, hL0, h0⟩
              case round =>
                clear h0 hL0
                obtain ⟨k, hk, rfl, hL, h0⟩ := hrel
                by_cases hlt : k < m
                · obtain ⟨yb, yo, u, rfl, hu, hr⟩ := HY.out k hlt
                  have hca := cell_later hL hu
                  have HR := Lib.hid (hr.keep hL)
                  have hi1 : (k : Int) < (m : Int) := by omega
                  have hi0 : (0 : Int) ≤ (k : Int) := by omega
                  have HOK : Hid (okW p yss k ↔ WOk p (yss.getD k []) ∧ (0 < k → 0 ≤ cmpL (yss.getD k []) (yss.getD (k - 1) []))) := Iff.rfl
                  have HKB : Hid (¬ okW p yss k → bb = false) := HB.out k hlt
                  have HKG : Hid (okW p yss k → k < j2) := fun h => by
                    rcases Nat.lt_or_ge k j2 with h1 | h1
                    · exact h1
                    · have e : k = j2 := by omega
                      subst e
                      exact absurd h (Hbad2.out hlt)
                  clear hu hr
                  generalize hcc : yss.getD k [] = c at *
                  clear hcc
                  obtain ⟨ua, uc, rfl, hlm, hce⟩ := HR.out
                  unfold maxLen at hlm
                  by_cases hl2 : c.length = 2
                  · obtain ⟨x0, x1, rfl⟩ := list2 hl2
                    rcases hce with hce | ⟨cb', co, rfl, hce⟩
                    · cases hce
                    · have c0 : wr.cell? ⟨cb', co, none⟩ = some (.int .i64 x0) := by simpa using hce 0 (by simp)
                      have c1 : wr.cell? ⟨cb', co + 1, none⟩ = some (.int .i64 x1) := by simpa using hce 1 (by simp)
                      clear hce hl2
                      by_cases b0 : 0 ≤ x0 ∧ x0 ≤ p - 1
                      · have B0 := Lib.hid b0
                        by_cases b1 : 0 ≤ x1 ∧ x1 ≤ p - 1
                        · have B1 := Lib.hid b1
                          by_cases b2 : x0 < x1
                          · have d2 : decide (x1 ≤ x0) = false := decide_eq_false (by omega)
                            have HC : Hid (WOk p [x0, x1]) := by unfold Hid; rw [wok_iff]; omega
                            clear b0 b1 b2
                            rcases Nat.eq_zero_or_pos k with hz | hp
                            · subst hz
                              have hkj := HKG.out (HOK.out.2 ⟨HC.out, fun h => absurd h (Nat.lt_irrefl _)⟩)
                              simp only [Nat.add_zero] at hca
                              have dk : decide ((0 : Int) < ((0 : Nat) : Int)) = false := rfl
                              go_wp2_with fail
                              go_quiet ((first | (go_at_call 65; exact quiet1 (l01In_yes _ _ _ _ B0.out)) | (go_at_call 65; exact quiet1 (l01In_yes _ _ _ _ B1.out))))
                              go_wp2_with fail
                              go_roundw
                              case rel => exact ⟨0 + 1, by omega, by go_num, Bdrew hL _, h0⟩
                              case measure => simp [intOf]; omega
                            · obtain ⟨yb2, yo2, u', e2, hu', hr'⟩ := HY.out (k - 1) (by omega)
                              obtain ⟨rfl, rfl⟩ : yb = yb2 ∧ yo = yo2 := by simpa using e2
                              have hcp := cell_later hL hu'
                              have HR' := Lib.hid (hr'.keep hL)
                              have hp1 : decide ((0 : Int) < (k : Int)) = true := decide_eq_true (by omega)
                              have hp2 : (0 : Int) ≤ (k : Int) - 1 := by omega
                              have hp3 : (k : Int) - 1 < (m : Int) := by omega
                              have hp4 : ((k : Int) - 1).toNat = k - 1 := by omega
                              have hw3 : IntKind.i64.wrap ((k : Int) - 1) = (k : Int) - 1 := IntWalk.i64_in _ (by omega)
                              have L2 : Hid ((yss.getD (k - 1) []).length = 2) := (Hok2.out (k - 1) (by omega)).1.1
                              have HR4 : Hid (Reads wr (.slice (some ⟨cb', co, none⟩) 2 uc) [x0, x1]) := HR.out
                              have L1 : Hid ([x0, x1].length = 2) := rfl
                              clear hu' hr' e2
                              generalize yss.getD (k - 1) [] = c' at *
                              by_cases hcmp : cmpL [x0, x1] c' < 0
                              · have hr : Hid (bb = false) := HKB.out (fun h => by have := (HOK.out.1 h).2 hp; omega)
                                have HZ : Hid (decide (cmpL [x0, x1] c' < 0) = true) := decide_eq_true hcmp
                                clear hcmp
                                go_wp2_with fail
                                go_quiet ((first | (go_at_call 65; exact quiet1 (l01In_yes _ _ _ _ B0.out)) | (go_at_call 65; exact quiet1 (l01In_yes _ _ _ _ B1.out)) | (go_at_call 111; exact Calls.quiet_of (first_any _ _ _ _ _ (HR4.out.keep (Bdrew (Below.refl _ _) _)) (HR'.out.keep (Bdrew (Below.refl _ _) _)) L1.out L2.out HZ.out))))
                                go_wp2_with fail
                                go_ret
                                exact ⟨by rw [hr.out]; rfl, Bdrew hL _⟩
                              · have hkj := HKG.out (HOK.out.2 ⟨HC.out, fun _ => by omega⟩)
                                have HZ : Hid (decide (cmpL [x0, x1] c' < 0) = false) := decide_eq_false hcmp
                                clear hcmp
                                go_wp2_with fail
                                go_quiet ((first | (go_at_call 65; exact quiet1 (l01In_yes _ _ _ _ B0.out)) | (go_at_call 65; exact quiet1 (l01In_yes _ _ _ _ B1.out)) | (go_at_call 111; exact Calls.quiet_of (first_any _ _ _ _ _ (HR4.out.keep (Bdrew (Below.refl _ _) _)) (HR'.out.keep (Bdrew (Below.refl _ _) _)) L1.out L2.out HZ.out))))
                                go_wp2_with fail
                                go_roundw
                                case rel => exact ⟨k + 1, by omega, by go_num, Bdrew hL _, h0⟩
                                case measure => simp [intOf]; omega
                          · have d2 : decide (x1 ≤ x0) = true := decide_eq_true (by omega)
                            have hr : Hid (bb = false) := HKB.out (fun h => by have := (HOK.out.1 h).1; rw [wok_iff] at this; omega)
                            clear b0 b1 b2
                            go_wp2_with fail
                            go_quiet ((first | (go_at_call 65; exact quiet1 (l01In_yes _ _ _ _ B0.out)) | (go_at_call 65; exact quiet1 (l01In_yes _ _ _ _ B1.out))))
                            go_wp2_with fail
                            go_ret
                            exact ⟨by rw [hr.out]; rfl, by first | exact Bdrew hL _ | go_grown⟩
                        · have B1 := Lib.hid b1
                          have hr : Hid (bb = false) := HKB.out (fun h => by have := (HOK.out.1 h).1; rw [wok_iff] at this; omega)
                          clear b0 b1
                          go_wp2_with fail
                          go_quiet ((first | (go_at_call 65; exact quiet1 (l01In_yes _ _ _ _ B0.out)) | (go_at_call 65; exact quiet1 (l01In_no _ _ _ _ B1.out))))
                          go_wp2_with fail
                          go_ret
                          exact ⟨by rw [hr.out]; rfl, by first | exact Bdrew hL _ | go_grown⟩
                      · have B0 := Lib.hid b0
                        have hr : Hid (bb = false) := HKB.out (fun h => by have := (HOK.out.1 h).1; rw [wok_iff] at this; omega)
                        clear b0
                        go_wp2_with fail
                        go_quiet ((first | (go_at_call 65; exact quiet1 (l01In_no _ _ _ _ B0.out))))
                        go_wp2_with fail
                        go_ret
                        exact ⟨by rw [hr.out]; rfl, by first | exact Bdrew hL _ | go_grown⟩
                  · have hr : Hid (bb = false) := HKB.out (fun h => hl2 (HOK.out.1 h).1.1)
                    have hd : (((c.length : Nat) : Int) != 2) = true := by simp; omega
                    have hd2 : (((c.length : Nat) : Int) == 2) = false := by simp; omega
                    clear hce HR HOK hl2
                    go_wp2_with fail
                    go_quiet (fail)
                    go_wp2_with fail
                    go_ret
                    exact ⟨by rw [hr.out]; rfl, by first | exact Bdrew hL _ | go_grown⟩
                · have hr : Hid (bb = true) := HGT.out (by omega)
                  have hge : ¬ (k : Int) < (m : Int) := by omega
                  clear hj hk hlt
                  go_wp2_with fail
                  go_ret
                  exact ⟨by rw [hr.out]; rfl, hL⟩
            · have hpt : (p != t) = true := by simp [hp]
              have hr : Hid (bb = false) := HPF.out (by rw [← HT.out]; exact hp)
              clear hp
              go_wp2_with fail
              go_ret
              exact ⟨by rw [hr.out]; rfl, hL0⟩

end Go.Proofs.Ytkdidplpnhokiaa
