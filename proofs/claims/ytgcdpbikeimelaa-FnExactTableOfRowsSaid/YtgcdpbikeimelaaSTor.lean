/- TableOfRows: the model's. -/
import Derived.Test.YtgcdpbikeimelaaAsc
import Derived.Test.YtgcdpbikeimelaaSPart
namespace Go.Proofs.Ytgcdpbikeimelaa
open Go.RowKit
set_option linter.unusedVariables false

set_option maxRecDepth 100000 in
set_option maxHeartbeats 1000000 in
theorem sTableOfRows_any (n : Int) (v : Value) (xs : List Int) (w : World) (ha : Reads w v xs) :
    Calls Try.prog 23 #[.int .i64 n, v] w fun e w' => e = .returned (torRes n xs) ∧ Below w.heap.size w w' := by
  have k0 := C2.here w (.int .i64 0) (.int .i64 0) 25
  obtain ⟨a, ca, rfl, hm, ha'⟩ := ha
  unfold maxLen at hm
  by_cases hn : 1 ≤ n ∧ n ≤ 5
  · have Hn := Lib.hid hn
    obtain ⟨n1, n5⟩ := hn
    have hrn := rcZ_bd n1 n5
    rcases ha' with rfl | ⟨b, off, rfl, ha'⟩
    · have hr : Hid (torRes n [] = .tuple #[.agg #[.int .i64 n, .int .i64 0], .int .i64 0]) := by
        unfold Hid torRes; rw [if_pos ⟨Hn.out, fun i hi => absurd hi (by simp)⟩]; rfl
      go_enter Try.func23, Try.ntmps23
      go_wp2_with ((go_at_call 42; (with_reducible refine (l01In_yes _ _ _ _ Hn.out).mono ?_); rintro e w' ⟨rfl, rfl⟩))
      refine wp_loop_rounds 1 ?_
      rw [rounds_succ]
      go_wp2_with fail
      refine bodyPost_ret (v := .tuple #[.agg #[.int .i64 n, .int .i64 0], .int .i64 0]) (by simp [results, Try.results23, go_sem, *]) rfl ?_
      exact ⟨by rw [hr.out], by go_grown⟩
    · -- j: how far the list is ascending
      obtain ⟨j, hj, hok, hbad⟩ : ∃ j, j ≤ xs.length ∧ (∀ i, i < j → okAt (rcZ n) xs i) ∧ (j < xs.length → ¬ okAt (rcZ n) xs j) := by
        by_cases h : ascB (rcZ n) xs
        · exact ⟨xs.length, Nat.le_refl _, h, fun hh => absurd hh (Nat.lt_irrefl _)⟩
        · obtain ⟨j, h1, h2, h3⟩ := first_bad _ _ h
          exact ⟨j, by omega, h2, fun _ => h3⟩
      have hres : Hid (torRes n xs = if j = xs.length then .tuple #[.agg #[.int .i64 n, .int .i64 (orTo xs xs.length)], .int .i64 0] else .tuple #[.agg #[.int .i64 0, .int .i64 0], .int .i64 2]) := by
        unfold Hid torRes
        by_cases e : j = xs.length
        · rw [if_pos e, if_pos ⟨Hn.out, by subst e; exact hok⟩]
        · rw [if_neg e, if_neg (fun h => hbad (by omega) (h.2 j (by omega)))]
      have Ha := Lib.hid ha'
      have Hok := Lib.hid hok
      have Hbad := Lib.hid hbad
      clear ha' hok hbad
      generalize hnn : xs.length = m at *
      clear hnn
      have k1 : C2 ((w.alloc (.cells #[.int .i64 0, .int .i64 0] 25)).alloc (.cells #[.int .i64 n, .int .i64 0] 25)) (w.heap.size + 1) (.int .i64 n) (.int .i64 0) := by simpa using C2.here (w.alloc (.cells #[.int .i64 0, .int .i64 0] 25)) (.int .i64 n) (.int .i64 0) 25
      go_enter Try.func23, Try.ntmps23
      go_wp2_with ((go_at_call 42; (with_reducible refine (l01In_yes _ _ _ _ Hn.out).mono ?_); rintro e w' ⟨rfl, rfl⟩))
      go_loopw [7] (fun c wr => ∃ k : Nat, k ≤ j ∧ c = .int .i64 (k : Int) ∧ Below w.heap.size w wr ∧ C2 wr w.heap.size (.int .i64 0) (.int .i64 0) ∧ C2 wr (w.heap.size + 1) (.int .i64 n) (.int .i64 (orTo xs k)))
        (fun c _ => m - (intOf c).toNat)
      case atStart => exact ⟨0, Nat.zero_le _, rfl, by go_grown, k0.alloc _, k1⟩
      case round =>
        clear k0 k1
        obtain ⟨k, hk, rfl, hL, k0, k1⟩ := hrel
        by_cases hlt : k < m
        · have hca := cell_later hL (Ha.out k hlt)
          have hi1 : (k : Int) < (m : Int) := by omega
          have hi0 : (0 : Int) ≤ (k : Int) := by omega
          have hw1 : IntKind.i64.wrap (rcZ n - 1) = rcZ n - 1 := IntWalk.i64_in _ (by omega)
          by_cases hkj : k < j
          · have hK := Hok.out k hkj
            have HB : Hid (0 ≤ xs.getD k 0 ∧ xs.getD k 0 ≤ rcZ n - 1) := ⟨hK.1.1, by have := hK.1.2; omega⟩
            have hs : Hid (orTo xs (k + 1) = bits .or .i64 (orTo xs k) (wrap64 (2 ^ (xs.getD k 0).toNat))) := rfl
            rcases Nat.eq_zero_or_pos k with hz | hp
            · subst hz
              have hd : decide ((0 : Int) < ((0 : Nat) : Int)) = false := by simp
              simp only [Nat.add_zero] at hca
              have hu := u64_in (x := xs.getD 0 0) hK.1.1 (by have := hK.1.2; omega)
              have hm2 : min (xs.getD 0 0).toNat 64 = (xs.getD 0 0).toNat := by have := hK.1.2; omega
              have hx0 : 0 ≤ xs.getD 0 0 := hK.1.1
              clear hK
              generalize xs.getD 0 0 = x at *
              go_wp2_with ((go_at_call 43; (with_reducible refine (l01Rows_any _ _ n1 n5).mono ?_); rintro e w' ⟨rfl, rfl⟩))
              go_quiet ((first | (go_at_call 43; exact quiet1 (l01Rows_any _ _ n1 n5)) | (go_at_call 42; exact quiet1 (l01In_yes _ _ _ _ HB.out))))
              go_wp2_with fail
              go_region
              all_goals (go_wp2_with fail)
              all_goals (first | rw [wrapW] | skip)
              exact ⟨⟨0 + 1, by omega, by go_num, (Bdrew hL _).setCell (p := ⟨w.heap.size + 1, 1, none⟩) (by simp) _, k0.set _ _ _ (by omega), by rw [hs.out]; exact k1.put1 _⟩, by simp [intOf]; omega⟩
            · have hd : decide ((0 : Int) < (k : Int)) = true := decide_eq_true (by omega)
              have hcp := cell_later hL (Ha.out (k - 1) (by omega))
              have hp1 : (0 : Int) < (k : Int) := by omega
              have hp2 : (0 : Int) ≤ (k : Int) - 1 := by omega
              have hp3 : (k : Int) - 1 < (m : Int) := by omega
              have hp4 : ((k : Int) - 1).toNat = k - 1 := by omega
              have hw2 : IntKind.i64.wrap ((k : Int) - 1) = (k : Int) - 1 := IntWalk.i64_in _ (by omega)
              have hq : decide (xs.getD k 0 ≤ xs.getD (k - 1) 0) = false := decide_eq_false (by have := hK.2 hp; omega)
              have hq2 : ¬ xs.getD k 0 ≤ xs.getD (k - 1) 0 := by have := hK.2 hp; omega
              have hu := u64_in (x := xs.getD k 0) hK.1.1 (by have := hK.1.2; omega)
              have hm2 : min (xs.getD k 0).toNat 64 = (xs.getD k 0).toNat := by have := hK.1.2; omega
              have hx0 : 0 ≤ xs.getD k 0 := hK.1.1
              clear hK
              generalize xs.getD k 0 = x at *
              generalize xs.getD (k - 1) 0 = y at *
              go_wp2_with ((go_at_call 43; (with_reducible refine (l01Rows_any _ _ n1 n5).mono ?_); rintro e w' ⟨rfl, rfl⟩))
              go_quiet ((first | (go_at_call 43; exact quiet1 (l01Rows_any _ _ n1 n5)) | (go_at_call 42; exact quiet1 (l01In_yes _ _ _ _ HB.out))))
              go_wp2_with fail
              go_region
              all_goals (go_wp2_with fail)
              all_goals (first | rw [wrapW] | skip)
              exact ⟨⟨k + 1, by omega, by go_num, (Bdrew hL _).setCell (p := ⟨w.heap.size + 1, 1, none⟩) (by simp) _, k0.set _ _ _ (by omega), by rw [hs.out]; exact k1.put1 _⟩, by simp [intOf]; omega⟩
          · have e : k = j := by omega
            subst e
            have hB := Hbad.out hlt
            have hr : Hid (torRes n xs = .tuple #[.agg #[.int .i64 0, .int .i64 0], .int .i64 2]) := by have := hres.out; rw [if_neg (by omega)] at this; exact this
            by_cases hin : 0 ≤ xs.getD k 0 ∧ xs.getD k 0 ≤ rcZ n - 1
            · have HB := Lib.hid hin
              have hp : 0 < k ∧ xs.getD k 0 ≤ xs.getD (k - 1) 0 := by
                rcases Nat.eq_zero_or_pos k with hz | hp
                · exact absurd ⟨⟨hin.1, by omega⟩, fun h => by omega⟩ hB
                · refine ⟨hp, Int.not_lt.1 fun h => hB ⟨⟨hin.1, by omega⟩, fun _ => h⟩⟩
              obtain ⟨hp, hq2⟩ := hp
              have hd : decide ((0 : Int) < (k : Int)) = true := decide_eq_true (by omega)
              have hcp := cell_later hL (Ha.out (k - 1) (by omega))
              have hp1 : (0 : Int) < (k : Int) := by omega
              have hp2 : (0 : Int) ≤ (k : Int) - 1 := by omega
              have hp3 : (k : Int) - 1 < (m : Int) := by omega
              have hp4 : ((k : Int) - 1).toNat = k - 1 := by omega
              have hw2 : IntKind.i64.wrap ((k : Int) - 1) = (k : Int) - 1 := IntWalk.i64_in _ (by omega)
              have hq : decide (xs.getD k 0 ≤ xs.getD (k - 1) 0) = true := decide_eq_true hq2
              clear hB hin
              generalize xs.getD k 0 = x at *
              generalize xs.getD (k - 1) 0 = y at *
              go_wp2_with ((go_at_call 43; (with_reducible refine (l01Rows_any _ _ n1 n5).mono ?_); rintro e w' ⟨rfl, rfl⟩))
              go_quiet ((first | (go_at_call 43; exact quiet1 (l01Rows_any _ _ n1 n5)) | (go_at_call 42; exact quiet1 (l01In_yes _ _ _ _ HB.out))))
              go_wp2_with fail
              refine bodyPost_ret (v := .tuple #[.agg #[.int .i64 0, .int .i64 0], .int .i64 2]) (by simp [results, Try.results23, go_sem, *]) rfl ?_
              exact ⟨by rw [hr.out], ((Bdrew hL _).setCell (p := ⟨w.heap.size, 0, none⟩) (by simp) _).setCell (p := ⟨w.heap.size, 1, none⟩) (by simp) _⟩
            · have HB := Lib.hid hin
              clear hB hin
              rcases Nat.eq_zero_or_pos k with hz | hp
              · subst hz
                simp only [Nat.add_zero] at hca
                generalize xs.getD 0 0 = x at *
                go_wp2_with ((go_at_call 43; (with_reducible refine (l01Rows_any _ _ n1 n5).mono ?_); rintro e w' ⟨rfl, rfl⟩))
                go_quiet ((first | (go_at_call 43; exact quiet1 (l01Rows_any _ _ n1 n5)) | (go_at_call 42; exact quiet1 (l01In_no _ _ _ _ HB.out))))
                go_wp2_with fail
                refine bodyPost_ret (v := .tuple #[.agg #[.int .i64 0, .int .i64 0], .int .i64 2]) (by simp [results, Try.results23, go_sem, *]) rfl ?_
                exact ⟨by rw [hr.out], ((Bdrew hL _).setCell (p := ⟨w.heap.size, 0, none⟩) (by simp) _).setCell (p := ⟨w.heap.size, 1, none⟩) (by simp) _⟩
              · generalize xs.getD k 0 = x at *
                go_wp2_with ((go_at_call 43; (with_reducible refine (l01Rows_any _ _ n1 n5).mono ?_); rintro e w' ⟨rfl, rfl⟩))
                go_quiet ((first | (go_at_call 43; exact quiet1 (l01Rows_any _ _ n1 n5)) | (go_at_call 42; exact quiet1 (l01In_no _ _ _ _ HB.out))))
                go_wp2_with fail
                refine bodyPost_ret (v := .tuple #[.agg #[.int .i64 0, .int .i64 0], .int .i64 2]) (by simp [results, Try.results23, go_sem, *]) rfl ?_
                exact ⟨by rw [hr.out], ((Bdrew hL _).setCell (p := ⟨w.heap.size, 0, none⟩) (by simp) _).setCell (p := ⟨w.heap.size, 1, none⟩) (by simp) _⟩
        · have e : k = m ∧ j = m := by omega
          obtain ⟨e1, e2⟩ := e
          have hr : Hid (torRes n xs = .tuple #[.agg #[.int .i64 n, .int .i64 (orTo xs m)], .int .i64 0]) := by have := hres.out; rw [if_pos e2] at this; exact this
          subst e1
          go_wp2_with fail
          refine bodyPost_ret (v := .tuple #[.agg #[.int .i64 n, .int .i64 (orTo xs k)], .int .i64 0]) (by simp [results, Try.results23, go_sem, *]) rfl ?_
          exact ⟨by rw [hr.out], by go_grown⟩
  · have hr : Hid (torRes n xs = .tuple #[.agg #[.int .i64 0, .int .i64 0], .int .i64 2]) := by unfold Hid torRes; rw [if_neg (fun h => hn h.1)]
    have Hn := Lib.hid hn
    clear hn ha'
    go_enter Try.func23, Try.ntmps23
    go_wp2_with ((go_at_call 42; (with_reducible refine (l01In_no _ _ _ _ Hn.out).mono ?_); rintro e w' ⟨rfl, rfl⟩))
    refine bodyPost_ret (v := .tuple #[.agg #[.int .i64 0, .int .i64 0], .int .i64 2]) (by simp [results, Try.results23, go_sem, *]) rfl ?_
    exact ⟨by rw [hr.out], by go_grown⟩

end Go.Proofs.Ytgcdpbikeimelaa
