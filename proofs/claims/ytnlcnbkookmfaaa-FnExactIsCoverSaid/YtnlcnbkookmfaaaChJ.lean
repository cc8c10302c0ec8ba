/- IsChart: the program's and the model's. -/
import Derived.Test.YtnlcnbkookmfaaaChI
import Derived.Deep.RegionHeld3
import Derived.Deep.DeepCutAuto
import Derived.WalkMore
namespace Go.Proofs.Ytnlcnbkookmfaaa
open Go.RowKit
set_option linter.unusedVariables false

set_option maxRecDepth 100000 in
set_option maxHeartbeats 2000000 in
theorem isChart_any (v : Value) (p : Int) (xss yss : List (List Int)) (w : World) (ha : ReadsH w v p xss yss) {b : Bool} (hb : chaB p xss yss = b) :
    Calls Try.prog 18 #[v] w fun e w' => e = .returned (.bool b) ∧ Below w.heap.size w w' := by
  have HRI := Lib.hid (fun w' (h : Below w.heap.size w w') => rowsIn_any v p xss yss w' (ha.keep h))
  obtain ⟨c1, hc1⟩ : ∃ c, decide (1 ≤ (xss.length : Int) ∧ (xss.length : Int) ≤ 8) = c := ⟨_, rfl⟩
  obtain ⟨c2, hc2⟩ : ∃ c, decide (1 ≤ p ∧ p ≤ 4) = c := ⟨_, rfl⟩
  obtain ⟨c4, hc4⟩ : ∃ c, decide (RowsOk p (xss.length : Int) xss) = c := ⟨_, rfl⟩
  obtain ⟨c5, hc5⟩ : ∃ c, decide (RowsOk p 2 yss) = c := ⟨_, rfl⟩
  obtain ⟨c3, hc3⟩ : ∃ c, ((yss.length : Int) != (xss.length : Int)) = c := ⟨_, rfl⟩
  have HB : Hid (b = (c1 && c2 && !c3 && c4 && c5)) := by
    rw [← hb, ← hc1, ← hc2, ← hc3, ← hc4, ← hc5]
    unfold Hid chaB Cha
    by_cases h1 : 1 ≤ xss.length ∧ xss.length ≤ 8
    · by_cases h3 : yss.length = xss.length
      · simp [h3, show 1 ≤ (xss.length : Int) ∧ (xss.length : Int) ≤ 8 by omega, h1]
        rw [Bool.eq_iff_iff]; simp [and_assoc]
      · have h3' : ((yss.length : Int) != (xss.length : Int)) = true := by simp; omega
        simp [h3, h3']
    · rw [decide_eq_false (show ¬ (1 ≤ (xss.length : Int) ∧ (xss.length : Int) ≤ 8) by omega)]
      exact decide_eq_false fun h => h1 h.1
  have HS1 := Lib.hid (fun w => isSizeH (xss.length : Int) 8 w hc1)
  have HS2 := Lib.hid (fun w => isSizeH p 4 w hc2)
  obtain ⟨a, ca, b', cb, rfl, h1, h2⟩ := ha
  have HA := Lib.hid (fun w' (h : Below w.heap.size w w') => arePlaces_any _ p (xss.length : Int) xss w' (h1.keep h) (by omega) hc4)
  have HA2 := Lib.hid (fun w' (h : Below w.heap.size w w') => arePlaces_any _ p 2 yss w' (h2.keep h) (by omega) hc5)
  have h0 := C3.here w (.int .i64 p) (.slice a xss.length ca) (.slice b' yss.length cb) 27
  clear hb h1 h2 hc1 hc2 hc4 hc5
  generalize xss.length = n at *
  generalize yss.length = m at *
  go_enter Try.func18, Try.ntmps18
  cases c1
  · go_wp2_with (first | (go_at_call 54; (with_reducible refine (HRI.out _ (by go_grown)).mono ?_); rintro e w' ⟨rfl, hb⟩; have hL := chain (B := w.heap.size) (a := w) (by go_grown) (Nat.le_refl _) hb; (first | replace h0 := keepAt3 hb h0 | replace h0 := keepAt3 hb (C3.alloc h0 _)); clear hb) | (go_at_call 55; (with_reducible refine (HS1.out _).mono ?_); rintro e w' ⟨rfl, rfl⟩))
    go_ret
    exact ⟨by rw [HB.out]; rfl, hL⟩
  · cases c2
    · go_wp2_with (first | (go_at_call 54; (with_reducible refine (HRI.out _ (by go_grown)).mono ?_); rintro e w' ⟨rfl, hb⟩; have hL := chain (B := w.heap.size) (a := w) (by go_grown) (Nat.le_refl _) hb; (first | replace h0 := keepAt3 hb h0 | replace h0 := keepAt3 hb (C3.alloc h0 _)); clear hb) | (go_at_call 55; (with_reducible refine (HS1.out _).mono ?_); rintro e w' ⟨rfl, rfl⟩) | (go_at_call 55; (with_reducible refine (HS2.out _).mono ?_); rintro e w' ⟨rfl, rfl⟩))
      go_ret
      exact ⟨by rw [HB.out]; rfl, hL⟩
    · cases c3
      · cases c4
        · go_wp2_with (first | (go_at_call 54; (with_reducible refine (HRI.out _ (by go_grown)).mono ?_); rintro e w' ⟨rfl, hb⟩; have hL := chain (B := w.heap.size) (a := w) (by go_grown) (Nat.le_refl _) hb; (first | replace h0 := keepAt3 hb h0 | replace h0 := keepAt3 hb (C3.alloc h0 _)); clear hb) | (go_at_call 55; (with_reducible refine (HS1.out _).mono ?_); rintro e w' ⟨rfl, rfl⟩) | (go_at_call 55; (with_reducible refine (HS2.out _).mono ?_); rintro e w' ⟨rfl, rfl⟩) | (go_at_call 56; (with_reducible refine (HA.out _ (by go_grown)).mono ?_); rintro e w' ⟨rfl, hb⟩; have hL := chain (B := w.heap.size) (a := w) (by go_grown) (Nat.le_refl _) hb; (first | replace h0 := keepAt3 hb h0 | replace h0 := keepAt3 hb (C3.alloc h0 _)); clear hb))
          go_ret
          exact ⟨by rw [HB.out]; rfl, hL⟩
        · go_wp2_with (first | (go_at_call 54; (with_reducible refine (HRI.out _ (by go_grown)).mono ?_); rintro e w' ⟨rfl, hb⟩; have hL := chain (B := w.heap.size) (a := w) (by go_grown) (Nat.le_refl _) hb; (first | replace h0 := keepAt3 hb h0 | replace h0 := keepAt3 hb (C3.alloc h0 _)); clear hb) | (go_at_call 55; (with_reducible refine (HS1.out _).mono ?_); rintro e w' ⟨rfl, rfl⟩) | (go_at_call 55; (with_reducible refine (HS2.out _).mono ?_); rintro e w' ⟨rfl, rfl⟩) | (go_at_call 56; (with_reducible refine (HA.out _ (by go_grown)).mono ?_); rintro e w' ⟨rfl, hb⟩; have hL := chain (B := w.heap.size) (a := w) (by go_grown) (Nat.le_refl _) hb; (first | replace h0 := keepAt3 hb h0 | replace h0 := keepAt3 hb (C3.alloc h0 _)); clear hb) | (go_at_call 56; (with_reducible refine (HA2.out _ (by go_grown)).mono ?_); rintro e w' ⟨rfl, hb⟩; have hL := chain (B := w.heap.size) (a := w) (by go_grown) (Nat.le_refl _) hb; (first | replace h0 := keepAt3 hb h0 | replace h0 := keepAt3 hb (C3.alloc h0 _)); clear hb))
          go_ret
          exact ⟨by rw [HB.out]; rfl, hL⟩
      · go_wp2_with (first | (go_at_call 54; (with_reducible refine (HRI.out _ (by go_grown)).mono ?_); rintro e w' ⟨rfl, hb⟩; have hL := chain (B := w.heap.size) (a := w) (by go_grown) (Nat.le_refl _) hb; (first | replace h0 := keepAt3 hb h0 | replace h0 := keepAt3 hb (C3.alloc h0 _)); clear hb) | (go_at_call 55; (with_reducible refine (HS1.out _).mono ?_); rintro e w' ⟨rfl, rfl⟩) | (go_at_call 55; (with_reducible refine (HS2.out _).mono ?_); rintro e w' ⟨rfl, rfl⟩))
        go_ret
        exact ⟨by rw [HB.out]; rfl, hL⟩

theorem cha_cases (p : Int) (xss yss : List (List Int)) : (chaB p xss yss = (decide (1 ≤ (xss.length : Int) ∧ (xss.length : Int) ≤ 8) && decide (1 ≤ p ∧ p ≤ 4) && !((yss.length : Int) != (xss.length : Int)) && decide (RowsOk p (xss.length : Int) xss) && decide (RowsOk p 2 yss))) := by
  unfold chaB Cha
  by_cases h1 : 1 ≤ xss.length ∧ xss.length ≤ 8
  · by_cases h3 : yss.length = xss.length
    · simp [h3, show 1 ≤ (xss.length : Int) ∧ (xss.length : Int) ≤ 8 by omega, h1]
      rw [Bool.eq_iff_iff]; simp [and_assoc]
    · have h3' : ((yss.length : Int) != (xss.length : Int)) = true := by simp; omega
      simp [h3, h3']
  · rw [decide_eq_false (show ¬ (1 ≤ (xss.length : Int) ∧ (xss.length : Int) ≤ 8) by omega)]
    exact decide_eq_false fun h => h1 h.1

set_option maxRecDepth 100000 in
set_option maxHeartbeats 4000000 in
theorem l07Is_any (v : Value) (p : Int) (xss yss : List (List Int)) (w : World) (ha : ReadsH w v p xss yss) {b : Bool} (hb : chaB p xss yss = b) :
    Calls Try.prog 53 #[v] w fun e w' => e = .returned (.bool b) ∧ Below w.heap.size w w' := by
  have HCC := cha_cases p xss yss
  rw [hb] at HCC
  by_cases hq1 : 1 ≤ (xss.length : Int) ∧ (xss.length : Int) ≤ 8
  · have HQ1 := Lib.hid hq1
    by_cases hq2 : 1 ≤ p ∧ p ≤ 4
    · have HQ2 := Lib.hid hq2
      by_cases hq3 : yss.length = xss.length
      · -- the rows
        obtain ⟨j, hj, hok, hbad⟩ := firstBad (fun i => RowOk p (xss.length : Int) (xss.getD i []) ∧ RowOk p 2 (yss.getD i [])) xss.length
        have HT : Hid (j = xss.length → b = true) := fun e => by
          rw [← hb]; rw [e] at hok
          exact decide_eq_true ⟨by omega, hq2, hq3, fun i hi => (hok i hi).1, fun i hi => (hok i (by omega)).2⟩
        have HF : Hid (j < xss.length → b = false) := fun e => by
          rw [← hb]
          exact decide_eq_false fun h => hbad e ⟨h.2.2.2.1 j e, h.2.2.2.2 j (by omega)⟩
        have Hok := Lib.hid hok
        have Hbad := Lib.hid hbad
        obtain ⟨a, ca, b', cb, rfl, h1, h2⟩ := ha
        have Ha : Hid (∀ k, k < xss.length → ∃ b off u, a = some ⟨b, off, none⟩ ∧ w.cell? ⟨b, off + k, none⟩ = some u ∧ Reads w u (xss.getD k [])) := fun k hk => h1.cellR hk
        have Hb : Hid (∀ k, k < xss.length → ∃ b off u, b' = some ⟨b, off, none⟩ ∧ w.cell? ⟨b, off + k, none⟩ = some u ∧ Reads w u (yss.getD k [])) := fun k hk => h2.cellR (by omega)
        have h0 := C3.here w (.int .i64 p) (.slice a xss.length ca) (.slice b' yss.length cb) 27
        have hd3 : (((yss.length : Nat) : Int) != ((xss.length : Nat) : Int)) = false := by simp [hq3]
        have hw : IntKind.i64.wrap ((xss.length : Int) - 1) = (xss.length : Int) - 1 := IntWalk.i64_in _ (by omega)
        clear hb HCC h1 h2 hok hbad
        rw [hq3] at h0 hd3 ⊢
        generalize xss.length = n at *
        obtain ⟨q1, q2⟩ := hq1
        go_enter Try.func53, Try.ntmps53
        go_wp2_with (first | (go_at_call 91; (with_reducible refine (l01In_yes _ _ _ _ HQ1.out).mono ?_); rintro e w' ⟨rfl, rfl⟩) | (go_at_call 91; (with_reducible refine (l01In_yes _ _ _ _ HQ2.out).mono ?_); rintro e w' ⟨rfl, rfl⟩))
        go_loopw [4] (fun c wr => ∃ k : Nat, k ≤ j ∧ c = .int .i64 (k : Int) ∧ Below w.heap.size w wr ∧ C3 wr w.heap.size (.int .i64 p) (.slice a n ca) (.slice b' n cb)) (fun c _ => n - (intOf c).toNat)
        case atStart => exact ⟨0, Nat.zero_le _, rfl, by go_grown, h0⟩
        case round =>
          clear h0
          obtain ⟨k, hk, rfl, hL, h0⟩ := hrel
          by_cases hlt : k < n
          · obtain ⟨ab, ao, u, rfl, hu, hr⟩ := Ha.out k hlt
            obtain ⟨bb, bo, u', rfl, hu', hr'⟩ := Hb.out k hlt
            have hca := cell_later hL hu
            have hcb := cell_later hL hu'
            have HR := Lib.hid (hr.keep hL)
            have HR' := Lib.hid (hr'.keep hL)
            obtain ⟨ua, uc, rfl, hum, _⟩ := hr
            obtain ⟨va, vc, rfl, hvm, _⟩ := hr'
            unfold maxLen at hum hvm
            have hi1 : (k : Int) < (n : Int) := by omega
            have hi0 : (0 : Int) ≤ (k : Int) := by omega
            have Hkj : Hid (RowOk p (n : Int) (xss.getD k []) → RowOk p 2 (yss.getD k []) → k < j) := fun h h' => by
              rcases Nat.lt_or_ge k j with h1 | h1
              · exact h1
              · have e : k = j := by omega
                subst e
                exact absurd ⟨h, h'⟩ (Hbad.out hlt)
            have Hkb : Hid (¬ (RowOk p (n : Int) (xss.getD k []) ∧ RowOk p 2 (yss.getD k [])) → b = false) := fun h => by
              refine HF.out ?_
              rcases Nat.lt_or_ge j n with h1 | h1
              · exact h1
              · exact absurd (Hok.out k (by omega)) h
            have HC1 : Hid (∀ i, i < (xss.getD k []).length → ∃ b off, ua = some ⟨b, off, none⟩ ∧ wr.cell? ⟨b, off + i, none⟩ = some (.int .i64 ((xss.getD k []).getD i 0))) := fun i hi => HR.out.cellR hi
            have HC2 : Hid (∀ i, i < (yss.getD k []).length → ∃ b off, va = some ⟨b, off, none⟩ ∧ wr.cell? ⟨b, off + i, none⟩ = some (.int .i64 ((yss.getD k []).getD i 0))) := fun i hi => HR'.out.cellR hi
            clear hu hu' HR HR'
            generalize xss.getD k [] = row at *
            generalize yss.getD k [] = out at *
            by_cases hlen : (row.length : Int) = p
            · by_cases hlen2 : (out.length : Int) = p
              · obtain ⟨i0, hi0', hok2, hbad2⟩ := firstBad (fun i => (-1 ≤ row.getD i 0 ∧ row.getD i 0 < (n : Int)) ∧ (-1 ≤ out.getD i 0 ∧ out.getD i 0 < 2)) row.length
                have HE : Hid (i0 = row.length → k < j) := fun e => Hkj.out ⟨hlen, fun i hi => (hok2 i (by omega)).1⟩ ⟨hlen2, fun i hi => (hok2 i (by omega)).2⟩
                have HE2 : Hid (i0 < row.length → b = false) := fun e => Hkb.out fun h => hbad2 e ⟨h.1.2 i0 (by omega), h.2.2 i0 (by omega)⟩
                have Hok2 := Lib.hid hok2
                have Hbad2 := Lib.hid hbad2
                have hee : out.length = row.length := by omega
                have hd1 : (((row.length : Nat) : Int) != p) = false := by simp [hlen]
                have hd2 : (((out.length : Nat) : Int) != p) = false := by simp [hlen2]
                rw [hee] at hcb hd2 HC2
                clear hok2 hbad2 hlen hlen2 hee hvm
                generalize hrl : row.length = rl at *
                clear hrl
                go_wp2_with fail
                go_quiet (fail)
                go_wp2_with fail
                go_loop [5] (fun c => ∃ i : Nat, i ≤ i0 ∧ c = .int .i64 (i : Int)) (fun c => rl - (intOf c).toNat)
                case atStart => exact ⟨0, Nat.zero_le _, rfl⟩
                case round =>
                  obtain ⟨i, hi, rfl⟩ := hrel
                  by_cases hil : i < rl
                  · obtain ⟨ub, uo, rfl, hx⟩ := HC1.out i hil
                    obtain ⟨vb, vo, rfl, hy⟩ := HC2.out i hil
                    have hii1 : (i : Int) < (rl : Int) := by omega
                    have hii0 : (0 : Int) ≤ (i : Int) := by omega
                    have Hij : Hid ((-1 ≤ row.getD i 0 ∧ row.getD i 0 < (n : Int)) → (-1 ≤ out.getD i 0 ∧ out.getD i 0 < 2) → i < i0) := fun h h' => by
                      rcases Nat.lt_or_ge i i0 with h1 | h1
                      · exact h1
                      · have e : i = i0 := by omega
                        subst e
                        exact absurd ⟨h, h'⟩ (Hbad2.out hil)
                    have Hib : Hid (¬ ((-1 ≤ row.getD i 0 ∧ row.getD i 0 < (n : Int)) ∧ (-1 ≤ out.getD i 0 ∧ out.getD i 0 < 2)) → b = false) := fun h => by
                      refine HE2.out ?_
                      rcases Nat.lt_or_ge i0 rl with h1 | h1
                      · exact h1
                      · exact absurd (Hok2.out i (by omega)) h
                    generalize row.getD i 0 = x at *
                    generalize out.getD i 0 = y at *
                    by_cases hx1 : -1 ≤ x ∧ x ≤ (n : Int) - 1
                    · have HX1 := Lib.hid hx1
                      by_cases hy1 : -1 ≤ y ∧ y ≤ 1
                      · have HY1 := Lib.hid hy1
                        have hij := Hij.out (by omega) (by omega)
                        clear hx1 hy1
                        go_wp2_with (first | (go_at_call 91; (with_reducible refine (l01In_yes _ _ _ _ HX1.out).mono ?_); rintro e w' ⟨rfl, rfl⟩) | (go_at_call 91; (with_reducible refine (l01In_yes _ _ _ _ HY1.out).mono ?_); rintro e w' ⟨rfl, rfl⟩))
                        go_round
                        case rel => exact ⟨i + 1, by omega, by go_num⟩
                        case measure => simp [intOf]; omega
                      · have HY1 := Lib.hid hy1
                        have HB := Lib.hid (Hib.out (by omega))
                        clear hx1 hy1
                        go_wp2_with (first | (go_at_call 91; (with_reducible refine (l01In_yes _ _ _ _ HX1.out).mono ?_); rintro e w' ⟨rfl, rfl⟩) | (go_at_call 91; (with_reducible refine (l01In_no _ _ _ _ HY1.out).mono ?_); rintro e w' ⟨rfl, rfl⟩))
                        go_ret
                        exact ⟨by rw [HB.out]; rfl, by first | exact Bdrew hL _ | go_grown⟩
                    · have HX1 := Lib.hid hx1
                      have HB := Lib.hid (Hib.out (by omega))
                      clear hx1
                      go_wp2_with ((go_at_call 91; (with_reducible refine (l01In_no _ _ _ _ HX1.out).mono ?_); rintro e w' ⟨rfl, rfl⟩))
                      go_ret
                      exact ⟨by rw [HB.out]; rfl, by first | exact Bdrew hL _ | go_grown⟩
                  · have hkj := HE.out (by omega)
                    have hil' : ¬ (i : Int) < (rl : Int) := by omega
                    go_wp2_with fail
                    go_roundw
                    case rel => exact ⟨k + 1, by omega, by go_num, Bdrew hL _, C3.drewUN h0 _⟩
                    case measure => simp [intOf]; omega
              · have hd1 : (((row.length : Nat) : Int) != p) = false := by simp [hlen]
                have hd2 : (((out.length : Nat) : Int) != p) = true := by simp [hlen2]
                have HB := Lib.hid (Hkb.out fun h => hlen2 h.2.1)
                clear hlen hlen2 HC1 HC2
                generalize row.length = rl at *
                generalize out.length = ol at *
                go_wp2_with fail
                go_quiet (fail)
                go_wp2_with fail
                go_ret
                exact ⟨by rw [HB.out]; rfl, by first | exact Bdrew hL _ | go_grown⟩
            · have hd1 : (((row.length : Nat) : Int) != p) = true := by simp [hlen]
              have HB := Lib.hid (Hkb.out fun h => hlen h.1.1)
              clear hlen HC1 HC2
              generalize row.length = rl at *
              go_wp2_with fail
              go_quiet (fail)
              go_wp2_with fail
              go_ret
              exact ⟨by rw [HB.out]; rfl, by first | exact Bdrew hL _ | go_grown⟩
          · have HB := Lib.hid (HT.out (by omega))
            have hge : ¬ (k : Int) < (n : Int) := by omega
            go_wp2_with fail
            go_ret
            exact ⟨by rw [HB.out]; rfl, hL⟩
      · have hd3 : (((yss.length : Nat) : Int) != ((xss.length : Nat) : Int)) = true := by simp; omega
        have HB : Hid (b = false) := by rw [Hid, HCC, hd3]; simp
        obtain ⟨a, ca, b', cb, rfl, _, _⟩ := ha
        clear hb HCC hq1 hq2 hq3
        generalize xss.length = n at *
        generalize yss.length = m at *
        go_enter Try.func53, Try.ntmps53
        go_wp2_with (first | (go_at_call 91; (with_reducible refine (l01In_yes _ _ _ _ HQ1.out).mono ?_); rintro e w' ⟨rfl, rfl⟩) | (go_at_call 91; (with_reducible refine (l01In_yes _ _ _ _ HQ2.out).mono ?_); rintro e w' ⟨rfl, rfl⟩))
        go_ret
        exact ⟨by rw [HB.out]; rfl, by go_grown⟩
    · have HQ2 := Lib.hid hq2
      have HB : Hid (b = false) := by rw [Hid, HCC, decide_eq_false hq2]; simp
      obtain ⟨a, ca, b', cb, rfl, _, _⟩ := ha
      clear hb HCC hq1 hq2
      generalize xss.length = n at *
      generalize yss.length = m at *
      go_enter Try.func53, Try.ntmps53
      go_wp2_with (first | (go_at_call 91; (with_reducible refine (l01In_yes _ _ _ _ HQ1.out).mono ?_); rintro e w' ⟨rfl, rfl⟩) | (go_at_call 91; (with_reducible refine (l01In_no _ _ _ _ HQ2.out).mono ?_); rintro e w' ⟨rfl, rfl⟩))
      go_ret
      exact ⟨by rw [HB.out]; rfl, by go_grown⟩
  · have HQ1 := Lib.hid hq1
    have HB : Hid (b = false) := by rw [Hid, HCC, decide_eq_false hq1]; simp
    obtain ⟨a, ca, b', cb, rfl, _, _⟩ := ha
    clear hb HCC hq1
    generalize xss.length = n at *
    generalize yss.length = m at *
    go_enter Try.func53, Try.ntmps53
    go_wp2_with ((go_at_call 91; (with_reducible refine (l01In_no _ _ _ _ HQ1.out).mono ?_); rintro e w' ⟨rfl, rfl⟩))
    go_ret
    exact ⟨by rw [HB.out]; rfl, by go_grown⟩

end Go.Proofs.Ytnlcnbkookmfaaa
