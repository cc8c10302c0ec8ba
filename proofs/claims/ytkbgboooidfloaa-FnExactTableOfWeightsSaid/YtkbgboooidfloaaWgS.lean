/- TableOfWeights: the model's. -/
import Derived.Test.YtkbgboooidfloaaWgF
namespace Go.Proofs.Ytkbgboooidfloaa
open Go.RowKit
set_option linter.unusedVariables false

set_option maxRecDepth 100000 in
set_option maxHeartbeats 4000000 in
theorem l03Weigh_any (v : Value) (xs : List Int) (r : Int) (w : World) (ha : Reads w v xs) (h1 : 1 ≤ xs.length) (h5 : xs.length ≤ 5) (hx : ∀ i, 0 ≤ xs.getD i 0 ∧ xs.getD i 0 ≤ 10) (r0 : 0 ≤ r) (r1 : r < 32) :
    Calls Try.prog 84 #[v, .int .i64 r] w fun e w' => e = .returned (.int .i64 (wsum xs r xs.length)) ∧ Below w.heap.size w w' := by
  obtain ⟨a, ca, rfl, hm, ha'⟩ := ha
  have Ha : Hid (∀ i, i < xs.length → ∃ b off, a = some ⟨b, off, none⟩ ∧ w.cell? ⟨b, off + i, none⟩ = some (.int .i64 (xs.getD i 0))) := by
    rcases ha' with rfl | ⟨b, off, rfl, ha'⟩
    · intro i hi; simp at h1
    · intro i hi; exact ⟨b, off, rfl, ha' i (by omega)⟩
  have HX := Lib.hid hx
  have HB := Lib.hid (fun k => wsum_bd hx r k)
  have HS := Lib.hid (fun k => wsum_succ xs r k)
  have hW0 : wsum xs r 0 = 0 := rfl
  clear hx ha'
  go_enter Try.func84, Try.ntmps84
  go_wp2_with fail
  go_loopw [5, 6] (fun s c wr => ∃ k : Nat, k ≤ xs.length ∧ c = .int .i64 (k : Int) ∧ s = .int .i64 (wsum xs r k) ∧ Below w.heap.size w wr)
    (fun _ c _ => xs.length - (intOf c).toNat)
  case atStart => exact ⟨0, by omega, rfl, by rw [hW0], Below.refl _ _⟩
  case round =>
    clear hW0
    obtain ⟨k, hk, rfl, rfl, hL⟩ := hrel
    by_cases hlt : k < xs.length
    · obtain ⟨b, off, rfl, hc0⟩ := Ha.out k hlt
      have hca := cell_later hL hc0
      have hi1 : (k : Int) < (xs.length : Int) := by omega
      have hi0 : (0 : Int) ≤ (k : Int) := by omega
      have hb := HB.out k
      have hd := digZ_bd r (k : Int)
      have hm2 := mulZ_bd (HX.out k) hd
      have hs := HS.out k
      have Hd := Lib.hid (digit_walk r (k : Int) r0 (by omega) (by omega))
      clear hc0 HX HB HS
      generalize wsum xs r k = S at *
      generalize xs.getD k 0 = x at *
      have he : bits .and .i64 (r / 2 ^ k) 1 = digZ r (k : Int) := Hd.out
      have HF : Hid (wrap64 (S + wrap64 (x * bits .and .i64 (r / 2 ^ k) 1)) = wsum xs r (k + 1)) := by
        unfold Hid
        have e1 : wrap64 (x * digZ r (k : Int)) = x * digZ r (k : Int) := IntWalk.wrap64_in _ (by omega)
        rw [he, hs, e1, IntWalk.wrap64_in _ (by omega)]
      clear hs hm2 he Hd hd
      go_wp2_with fail
      exact ⟨⟨k + 1, by omega, by go_num, by rw [HF.out], hL⟩, by simp [intOf]; omega⟩
    · have e : k = xs.length := by omega
      subst e
      have hkn : ¬ (xs.length : Int) < (xs.length : Int) := by omega
      go_wp2_with fail
      go_ret
      exact ⟨rfl, hL⟩

set_option maxRecDepth 100000 in
set_option maxHeartbeats 4000000 in
theorem l03Weights_any (v : Value) (xs : List Int) (b : Int) (w : World) (ha : Reads w v xs) (h1 : 1 ≤ xs.length) (h5 : xs.length ≤ 5) (hx : ∀ i, 0 ≤ xs.getD i 0 ∧ xs.getD i 0 ≤ 10) (b0 : 0 ≤ b) (b1 : b ≤ 100) :
    Calls Try.prog 59 #[v, .int .i64 b] w fun e w' => e = .returned (.agg #[.int .i64 (xs.length : Int), .int .i64 (wTo xs b (2 ^ xs.length))]) ∧ Below w.heap.size w w' := by
  have HR : ∀ w, Calls Try.prog 74 #[.int .i64 (xs.length : Int)] w fun e w' => e = .returned (.int .i64 ((2 ^ xs.length : Nat) : Int)) ∧ w = w' := fun w => by
    have := l01Rows_any (xs.length : Int) w (by omega) (by omega)
    unfold rcZ at this
    rw [Int.toNat_natCast] at this
    exact this
  have hp5 : 2 ^ xs.length ≤ 32 := Nat.pow_le_pow_right (n := 2) (by decide) h5
  obtain ⟨a, ca, rfl, hm, ha'⟩ := ha
  have hRd : Reads w (.slice a xs.length ca) xs := ⟨a, ca, rfl, hm, ha'⟩
  clear ha'
  have HW := fun (r : Int) (w1 : World) (hb : Below w.heap.size w w1) (r0 : 0 ≤ r) (r1 : r < 32) => l03Weigh_any _ xs r w1 (hRd.keep hb) h1 h5 hx r0 r1
  have HB := fun r => wsum_bd hx r xs.length
  have HS1 := fun (k : Nat) (hk : k < 32) => wTo_one (xs := xs) (b := b) hk
  have HS0 := fun (k : Nat) => wTo_zero (xs := xs) (b := b) (k := k)
  have hT0 : wTo xs b 0 = 0 := rfl
  clear hRd hx
  generalize hM : 2 ^ xs.length = M at *
  clear hM
  generalize xs.length = N at *
  replace HR := Lib.hid HR
  replace HW := Lib.hid HW
  replace HB := Lib.hid HB
  replace HS1 := Lib.hid HS1
  replace HS0 := Lib.hid HS0
  have k0 : C2 ((w.alloc (.cells #[.int .i64 0, .int .i64 0] 30)).alloc (.cells #[.int .i64 (N : Int), .int .i64 0] 30)) (w.heap.size) (.int .i64 0) (.int .i64 0) := by simpa using (C2.here w (.int .i64 0) (.int .i64 0) 30).alloc (.cells #[.int .i64 (N : Int), .int .i64 0] 30)
  have k1 : C2 ((w.alloc (.cells #[.int .i64 0, .int .i64 0] 30)).alloc (.cells #[.int .i64 (N : Int), .int .i64 0] 30)) (w.heap.size + 1) (.int .i64 (N : Int)) (.int .i64 0) := by simpa using C2.here (w.alloc (.cells #[.int .i64 0, .int .i64 0] 30)) (.int .i64 (N : Int)) (.int .i64 0) 30
  go_enter Try.func59, Try.ntmps59
  go_wp2_with fail
  go_loopw [6] (fun c wr => ∃ k : Nat, k ≤ M ∧ c = .int .i64 (k : Int) ∧ Below w.heap.size w wr ∧ C2 wr w.heap.size (.int .i64 0) (.int .i64 0) ∧ C2 wr (w.heap.size + 1) (.int .i64 (N : Int)) (.int .i64 (wTo xs b k))) (fun c _ => M - (intOf c).toNat)
  case atStart => exact ⟨0, Nat.zero_le _, rfl, by go_grown, k0, by rw [hT0]; exact k1⟩
  case round =>
    clear k0 k1 hT0
    obtain ⟨k, hk, rfl, hL, k0, k1⟩ := hrel
    by_cases hlt : k < M
    · have hj1 : (k : Int) < (M : Int) := by omega
      have hSb := HB.out (k : Int)
      have HC := Lib.hid (fun w1 hb => HW.out (k : Int) w1 hb (by omega) (by omega))
      by_cases hge : b ≤ wsum xs (k : Int) N
      · have Hs := Lib.hid (HS1.out k (by omega) hge)
        clear HS1 HS0 HB HW
        generalize wsum xs (k : Int) N = S at *
        go_wp2_with (first | (go_at_call 74; (with_reducible refine (HR.out _).mono ?_); rintro e w' ⟨rfl, rfl⟩) | (go_at_call 84; (with_reducible refine (HC.out _ hL).mono ?_); rintro e w3 ⟨rfl, hb⟩; replace hL := chain (B := w.heap.size) (a := w) hL (Nat.le_refl _) hb; replace k0 := keepAt hb k0; replace k1 := keepAt hb k1; clear hb))
        rw [Hs.out]
        exact ⟨⟨k + 1, by omega, by go_num, hL.setCell (p := ⟨w.heap.size + 1, 1, none⟩) (show w.heap.size ≤ w.heap.size + 1 by omega) _, k0.set _ _ _ (by omega), k1.put1 _⟩, by simp [intOf]; omega⟩
      · have Hs := Lib.hid (HS0.out k (by omega))
        clear HS1 HS0 HB HW
        generalize wsum xs (k : Int) N = S at *
        go_wp2_with (first | (go_at_call 74; (with_reducible refine (HR.out _).mono ?_); rintro e w' ⟨rfl, rfl⟩) | (go_at_call 84; (with_reducible refine (HC.out _ hL).mono ?_); rintro e w3 ⟨rfl, hb⟩; replace hL := chain (B := w.heap.size) (a := w) hL (Nat.le_refl _) hb; replace k0 := keepAt hb k0; replace k1 := keepAt hb k1; clear hb))
        exact ⟨⟨k + 1, by omega, by go_num, hL, k0, by rw [Hs.out]; exact k1⟩, by simp [intOf]; omega⟩
    · have e : k = M := by omega
      rw [e] at k1
      clear e
      have hkn : ¬ (k : Int) < (M : Int) := by omega
      go_wp2_with ((go_at_call 74; (with_reducible refine (HR.out _).mono ?_); rintro e w' ⟨rfl, rfl⟩))
      refine bodyPost_ret (v := .agg #[.int .i64 (N : Int), .int .i64 (wTo xs b M)]) (by simp [results, Try.results59, go_sem, *]) rfl ?_
      exact ⟨rfl, by go_grown⟩

set_option maxRecDepth 100000 in
set_option maxHeartbeats 4000000 in
theorem sTableOfWeights_any (v : Value) (xs : List Int) (b : Int) (w : World) (ha : Reads w v xs) :
    Calls Try.prog 29 #[v, .int .i64 b] w fun e w' => e = .returned (.tuple #[.agg #[.int .i64 (resTableOfWeights_0n xs b), .int .i64 (resTableOfWeights_0m xs b)], .int .i64 (resTableOfWeights_1 xs b)]) ∧ Below w.heap.size w w' := by
  have k0 : C2 (w.alloc (.cells #[.int .i64 0, .int .i64 0] 30)) (w.heap.size) (.int .i64 0) (.int .i64 0) := by simpa using C2.here w (.int .i64 0) (.int .i64 0) 30
  have hL : Below w.heap.size w (w.alloc (.cells #[.int .i64 0, .int .i64 0] 30)) := (Below.refl _ _).alloc (Nat.le_refl _) _
  have ha0 := ha
  obtain ⟨a, ca, rfl, hm, ha'⟩ := ha
  by_cases hn : 1 ≤ (xs.length : Int) ∧ (xs.length : Int) ≤ 5
  · by_cases hb : 0 ≤ b ∧ b ≤ 100
    · have HWT := Lib.hid (fun (w1 : World) (hx : ∀ i, i < xs.length → 0 ≤ xs.getD i 0 ∧ xs.getD i 0 ≤ 10) (hbl : Below w.heap.size w w1) => l03Weights_any _ xs b w1 (ha0.keep hbl) (by omega) (by omega) (wdefault hx) hb.1 hb.2)
      have Ha : Hid (∀ i, i < xs.length → ∃ b off, a = some ⟨b, off, none⟩ ∧ w.cell? ⟨b, off + i, none⟩ = some (.int .i64 (xs.getD i 0))) := by
        rcases ha' with rfl | ⟨b, off, rfl, ha'⟩
        · intro i hi; simp at hn
        · intro i hi; exact ⟨b, off, rfl, ha' i (by omega)⟩
      have HN := Lib.hid hn
      have HBb := Lib.hid hb
      have hn5 : xs.length ≤ 5 := by omega
      clear hn hb ha' ha0
      go_enter Try.func29, Try.ntmps29
      go_wp2_with (first | (go_at_call 39; (with_reducible refine (l01In_yes _ _ _ _ HN.out).mono ?_); rintro e w' ⟨rfl, rfl⟩) | (go_at_call 39; (with_reducible refine (l01In_yes _ _ _ _ HBb.out).mono ?_); rintro e w' ⟨rfl, rfl⟩))
      go_loopw [6] (fun c wr => ∃ k : Nat, k ≤ xs.length ∧ c = .int .i64 (k : Int) ∧ (∀ i, i < k → 0 ≤ xs.getD i 0 ∧ xs.getD i 0 ≤ 10) ∧ Below w.heap.size w wr ∧ C2 wr w.heap.size (.int .i64 0) (.int .i64 0)) (fun c _ => xs.length - (intOf c).toNat)
      case atStart => exact ⟨0, Nat.zero_le _, rfl, fun i hi => by omega, hL, k0⟩
      case round =>
        clear k0 hL
        obtain ⟨k, hk, rfl, hal, hL, k0⟩ := hrel
        by_cases hlt : k < xs.length
        · obtain ⟨g, off, rfl, hc0⟩ := Ha.out k hlt
          have hca := cell_later hL hc0
          have hi1 : (k : Int) < (xs.length : Int) := by omega
          have hi0 : (0 : Int) ≤ (k : Int) := by omega
          by_cases hx : 0 ≤ xs.getD k 0 ∧ xs.getD k 0 ≤ 10
          · have HX := Lib.hid hx
            have HA : Hid (∀ i, i < k + 1 → 0 ≤ xs.getD i 0 ∧ xs.getD i 0 ≤ 10) := fun i hi => by
              rcases Nat.lt_or_ge i k with h | h
              · exact hal i h
              · rw [show i = k by omega]; exact hx
            clear hx hal hc0
            generalize xs.getD k 0 = x at *
            go_wp2_with ((go_at_call 39; (with_reducible refine (l01In_yes _ _ _ _ HX.out).mono ?_); rintro e w' ⟨rfl, rfl⟩))
            exact ⟨⟨k + 1, by omega, by go_num, HA.out, hL, k0⟩, by simp [intOf]; omega⟩
          · have HX := Lib.hid hx
            have hr := Lib.hid (resTW_no (xs := xs) (b := b) (fun h => hx (h.2.1 k hlt)))
            clear hx hal hc0
            generalize xs.getD k 0 = x at *
            go_wp2_with ((go_at_call 39; (with_reducible refine (l01In_no _ _ _ _ HX.out).mono ?_); rintro e w' ⟨rfl, rfl⟩))
            refine bodyPost_ret (v := .tuple #[.agg #[.int .i64 0, .int .i64 0], .int .i64 2]) (by simp [results, Try.results29, go_sem, *]) rfl ?_
            exact ⟨by rw [hr.out.1, hr.out.2.1, hr.out.2.2], by go_grown⟩
        · have e : k = xs.length := by omega
          subst e
          have hkn : ¬ (xs.length : Int) < (xs.length : Int) := by omega
          have hn2 : 1 ≤ xs.length ∧ xs.length ≤ 5 := by have := HN.out; omega
          have hr := Lib.hid (resTW_yes (xs := xs) (b := b) ⟨hn2, hal, HBb.out⟩)
          have HT := Lib.hid (HWT.out _ hal hL)
          clear hal hn2
          go_wp2_with (go_at_call 59; (with_reducible refine HT.out.mono ?_); rintro e w4 ⟨rfl, hb⟩; replace hL := chain (B := w.heap.size) (a := w) hL (Nat.le_refl _) hb; replace k0 := keepAt hb k0; clear hb)
          refine bodyPost_ret (v := .tuple #[.agg #[.int .i64 (xs.length : Int), .int .i64 (wTo xs b (2 ^ xs.length))], .int .i64 0]) (by simp [results, Try.results29, go_sem, *]) rfl ?_
          exact ⟨by rw [hr.out.1, hr.out.2.1, hr.out.2.2], by go_grown⟩
    · have hr := Lib.hid (resTW_no (xs := xs) (b := b) (fun h => hb h.2.2))
      have HN := Lib.hid hn
      have HBb := Lib.hid hb
      clear hn hb ha' ha0
      go_enter Try.func29, Try.ntmps29
      go_wp2_with (first | (go_at_call 39; (with_reducible refine (l01In_yes _ _ _ _ HN.out).mono ?_); rintro e w' ⟨rfl, rfl⟩) | (go_at_call 39; (with_reducible refine (l01In_no _ _ _ _ HBb.out).mono ?_); rintro e w' ⟨rfl, rfl⟩))
      refine bodyPost_ret (v := .tuple #[.agg #[.int .i64 0, .int .i64 0], .int .i64 2]) (by simp [results, Try.results29, go_sem, *]) rfl ?_
      exact ⟨by rw [hr.out.1, hr.out.2.1, hr.out.2.2], by go_grown⟩
  · have hr := Lib.hid (resTW_no (xs := xs) (b := b) (fun h => hn (by have := h.1; omega)))
    have HN := Lib.hid hn
    clear hn ha' ha0
    go_enter Try.func29, Try.ntmps29
    go_wp2_with (first | (go_at_call 39; (with_reducible refine (l01In_no _ _ _ _ HN.out).mono ?_); rintro e w' ⟨rfl, rfl⟩))
    refine bodyPost_ret (v := .tuple #[.agg #[.int .i64 0, .int .i64 0], .int .i64 2]) (by simp [results, Try.results29, go_sem, *]) rfl ?_
    exact ⟨by rw [hr.out.1, hr.out.2.1, hr.out.2.2], by go_grown⟩

end Go.Proofs.Ytkbgboooidfloaa
