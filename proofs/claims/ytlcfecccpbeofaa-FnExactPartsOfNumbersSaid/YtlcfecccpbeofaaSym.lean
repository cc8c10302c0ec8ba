/- SymmetricTable: the program's. -/
import Derived.Test.YtlcfecccpbeofaaSymM
namespace Go.Proofs.Ytlcfecccpbeofaa
open Go.RowKit
set_option linter.unusedVariables false

theorem areNumbers_any (n : Int) (v : Value) (xs : List Int) (w : World) (ha : Reads w v xs) :
    Calls Try.prog 28 #[.int .i64 n, v] w fun e w' => e = .returned (.bool (decide ((1 ≤ n ∧ n ≤ 5) ∧ ascB (n + 1) xs))) ∧ w = w' := by
  by_cases h : 1 ≤ n ∧ n ≤ 5
  · have hw : wrap64 (n + 1) = n + 1 := IntWalk.wrap64_in _ (by omega)
    have HB : Hid (decide (ascB (n + 1) xs) = decide ((1 ≤ n ∧ n ≤ 5) ∧ ascB (n + 1) xs)) := by unfold Hid; simp [h]
    generalize decide ((1 ≤ n ∧ n ≤ 5) ∧ ascB (n + 1) xs) = r at *
    have HA := Lib.hid ha
    obtain ⟨n1, n5⟩ := h
    clear ha
    go_enter Try.func28, Try.ntmps28
    go_wp2_with (first | (go_at_call 43; (with_reducible refine (isInputCount_yes _ _ n1 n5).mono ?_); rintro e w' ⟨rfl, rfl⟩) | (go_at_call 50; (with_reducible refine (asc_b _ _ _ _ HA.out HB.out).mono ?_); rintro e w' ⟨rfl, rfl⟩))
    go_ret
    exact ⟨rfl, rfl⟩
  · have HB : Hid (decide ((1 ≤ n ∧ n ≤ 5) ∧ ascB (n + 1) xs) = false) := by unfold Hid; simp only [h, false_and, decide_false]
    have Hn : Hid (n < 1 ∨ 5 < n) := by unfold Hid; omega
    clear h ha
    go_enter Try.func28, Try.ntmps28
    go_wp2_with (first | (go_at_call 43; (with_reducible refine (isInputCount_no _ _ Hn.out).mono ?_); rintro e w' ⟨rfl, rfl⟩))
    go_ret
    exact ⟨by rw [HB.out]; rfl, rfl⟩

theorem areB (n : Int) (v : Value) (xs : List Int) (w : World) (ha : Reads w v xs) {b : Bool} (hb : decide ((1 ≤ n ∧ n ≤ 5) ∧ ascB (n + 1) xs) = b) :
    Calls Try.prog 28 #[.int .i64 n, v] w fun e w' => e = .returned (.bool b) ∧ w = w' := by
  have := areNumbers_any n v xs w ha
  rwa [hb] at this

set_option maxHeartbeats 1000000 in
theorem setOf_any (n : Int) (v : Value) (xs : List Int) (w : World) (ha : Reads w v xs) (h : ascB (n + 1) xs) (h0 : 0 ≤ n) (h5 : n ≤ 5) :
    Calls Try.prog 30 #[v] w fun e w' => e = .returned (.int .i64 (setL xs : Int)) ∧ w = w' := by
  obtain ⟨a, ca, rfl, hm, ha'⟩ := ha
  unfold maxLen at hm
  rcases ha' with rfl | ⟨b, off, rfl, ha'⟩
  · go_enter Try.func30, Try.ntmps30
    go_wp2
    refine wp_loop_rounds 1 ?_
    rw [rounds_succ]
    go_wp2
    go_ret
    exact ⟨rfl, rfl⟩
  · have Ha := Lib.hid ha'
    have HX := Lib.hid h
    have HL : Hid (setL xs = sumTo xs xs.length) := rfl
    have H5 : Hid (0 ≤ n ∧ n ≤ 5) := ⟨h0, h5⟩
    clear ha' h h0 h5
    generalize hnn : xs.length = m at *
    have Hm := Lib.hid hnn
    clear hnn
    go_enter Try.func30, Try.ntmps30
    go_wp2_with fail
    go_loop [3, 8] (fun s c => ∃ k : Nat, k ≤ m ∧ c = .int .i64 (k : Int) ∧ s = .int .i64 (sumTo xs k : Int)) (fun _ c => m - (intOf c).toNat)
    case atStart => exact ⟨0, Nat.zero_le _, rfl, rfl⟩
    case round =>
      obtain ⟨k, hk, rfl, rfl⟩ := hrel
      by_cases hlt : k < m
      · have hca := Ha.out k hlt
        have HS := Lib.hid (sumTo_or HX.out H5.out.1 H5.out.2 (k := k) (by have := Hm.out; omega))
        obtain ⟨⟨x0, x1⟩, _⟩ := HX.out k (by have := Hm.out; omega)
        have hi1 : (k : Int) < (m : Int) := by omega
        have hi0 : (0 : Int) ≤ (k : Int) := by omega
        have h5 := H5.out.2
        generalize xs.getD k 0 = x at *
        have hm2 : min x.toNat 64 = x.toNat := by omega
        go_wp2_with fail
        rw [HS.out]
        exact ⟨⟨k + 1, by omega, by go_num, rfl⟩, by simp [intOf]; omega⟩
      · have HK : Hid (sumTo xs k = setL xs) := by have e : k = m := by omega
                                                   subst e; exact HL.out.symm
        have hi1 : ¬ (k : Int) < (m : Int) := by omega
        go_wp2_with fail
        go_ret
        exact ⟨by rw [HK.out]; rfl, rfl⟩

def pop1 (x : Int) : Int := IntKind.u64.wrap (bits .and .u64 (x / 2) 6148914691236517205 + bits .and .u64 x 6148914691236517205)
def pop2 (x : Int) : Int := IntKind.u64.wrap (bits .and .u64 (x / 4) 3689348814741910323 + bits .and .u64 x 3689348814741910323)
def pop3 (x : Int) : Int := bits .and .u64 (IntKind.u64.wrap (x / 16 + x)) 1085102592571150095
def pop4 (x : Int) : Int := IntKind.u64.wrap (x + x / 256)
def pop5 (x : Int) : Int := IntKind.u64.wrap (x + x / 65536)
def pop6 (x : Int) : Int := IntKind.u64.wrap (x + x / 4294967296)
def pop (x : Int) : Int := bits .and .i64 (wrap64 (pop6 (pop5 (pop4 (pop3 (pop2 (pop1 x))))))) 127
theorem pop_fin : ∀ j : Fin 32, pop (j.val : Int) = (onesN j.val : Int) := by decide +kernel

set_option maxHeartbeats 1000000 in
theorem ones64_any (k : Nat) (w : World) (hk : k < 32) :
    Calls Try.prog 52 #[.int .u64 (k : Int)] w fun e w' => e = .returned (.int .i64 (onesN k : Int)) ∧ w = w' := by
  have hp : Hid (pop (k : Int) = (onesN k : Int)) := pop_fin ⟨k, hk⟩
  go_enter Try.func52, Try.ntmps52
  go_wp2
  go_ret
  refine ⟨?_, rfl⟩
  rw [← hp.out]
  rfl

theorem symF (S : Nat) (k : Nat) : digZ (S : Int) (onesN k : Int) = (dig S (onesN k) : Int) := by
  unfold digZ; rw [Int.toNat_natCast, Int.toNat_natCast]

set_option maxRecDepth 100000 in
set_option maxHeartbeats 2000000 in
theorem symmetricTable_any (n : Int) (S : Nat) (w : World) (n1 : 1 ≤ n) (n5 : n ≤ 5) (hS : S < 64) :
    Calls Try.prog 29 #[.int .i64 n, .int .i64 (S : Int)] w fun e w' => e = .returned (.agg #[.int .i64 n, .int .i64 (symVals n S)]) ∧ Below w.heap.size w w' := by
  have Hr : Hid (rcZ n = ((2 ^ n.toNat : Nat) : Int)) := rfl
  have hr := rcZ_bd n1 n5
  have HV : Hid (symVals n S = buildZ (fun r => dig S (onesN r)) (2 ^ n.toNat)) := rfl
  have k0 : C2 ((w.alloc (.cells #[.int .i64 0, .int .i64 0] 24)).alloc (.cells #[.int .i64 n, .int .i64 0] 24)) (w.heap.size) (.int .i64 0) (.int .i64 0) := by simpa using (C2.here w (.int .i64 0) (.int .i64 0) 24).alloc (.cells #[.int .i64 n, .int .i64 0] 24)
  have k1 : C2 ((w.alloc (.cells #[.int .i64 0, .int .i64 0] 24)).alloc (.cells #[.int .i64 n, .int .i64 0] 24)) (w.heap.size + 1) (.int .i64 n) (.int .i64 0) := by simpa using C2.here (w.alloc (.cells #[.int .i64 0, .int .i64 0] 24)) (.int .i64 n) (.int .i64 0) 24
  go_enter Try.func29, Try.ntmps29
  go_wp2_with ((go_at_call 51; (with_reducible refine (rowCount_any _ _ n1 n5).mono ?_); rintro e w' ⟨rfl, rfl⟩))
  go_loopw [12] (fun c wr => ∃ k : Nat, (k : Int) ≤ rcZ n ∧ c = .int .i64 (k : Int) ∧ Below w.heap.size w wr ∧ C2 wr w.heap.size (.int .i64 0) (.int .i64 0) ∧ C2 wr (w.heap.size + 1) (.int .i64 n) (.int .i64 (buildZ (fun r => dig S (onesN r)) k)))
    (fun c _ => (rcZ n - intOf c).toNat)
  case atStart => exact ⟨0, by omega, rfl, by go_grown, k0, k1⟩
  case round =>
    clear k0 k1
    obtain ⟨k, hk, rfl, hL, k0, k1⟩ := hrel
    by_cases hlt : (k : Int) < rcZ n
    · have hk32 : k < 32 := by omega
      have HO := Lib.hid (onesN_le k)
      have HD := Lib.hid (symF S k)
      have Hs := Lib.hid (build_stepG (fun r => dig S (onesN r)) k hk32 (dig_lt _ _))
      have hu : IntKind.u64.wrap (k : Int) = (k : Int) := IntWalk.u64_in _ (by omega)
      have HS : Hid ((0 : Int) ≤ S ∧ (S : Int) < 9223372036854775808) := by unfold Hid; omega
      have HO2 : Hid ((0 : Int) ≤ onesN k ∧ (onesN k : Int) ≤ 62) := by unfold Hid; have := HO.out; omega
      go_wp2_with ((go_at_call 52; (with_reducible refine (ones64_any k _ hk32).mono ?_); rintro e w' ⟨rfl, rfl⟩))
      generalize onesN k = z at *
      go_region_with (first | (go_at_call 53; (with_reducible refine (digitAt_any _ _ _ HS.out.1 HS.out.2 HO2.out.1 HO2.out.2).mono ?_); rintro e w' ⟨rfl, rfl⟩))
      all_goals (go_wp2_with fail)
      all_goals (rw [HD.out, Hs.out]; exact ⟨⟨k + 1, by omega, by go_num, by go_grown, k0.set _ _ _ (by omega), k1.put1 _⟩, by simp [intOf]; omega⟩)
    · have Hk : Hid ((k : Nat) = 2 ^ n.toNat) := by have := Hr.out; unfold Hid; omega
      rw [Hk.out, ← HV.out] at k1
      go_wp2_with ((go_at_call 51; (with_reducible refine (rowCount_any _ _ n1 n5).mono ?_); rintro e w' ⟨rfl, rfl⟩))
      refine bodyPost_ret (v := .agg #[.int .i64 n, .int .i64 (symVals n S)]) (by simp [results, Try.results29, go_sem, *]) rfl ?_
      exact ⟨rfl, by go_grown⟩

set_option maxRecDepth 100000 in
set_option maxHeartbeats 1000000 in
theorem iSymmetricTable_any (n : Int) (v : Value) (xs : List Int) (w : World) (ha : Reads w v xs) :
    Calls Try.prog 10 #[.int .i64 n, v] w fun e w' => e = .returned (symRes n xs) ∧ Below w.heap.size w w' := by
  have HA := Lib.hid (ha.keep ((Below.refl _ _).alloc (Nat.le_refl _) (.cells #[.int .i64 0, .int .i64 0] 24)))
  have k0 : C2 (w.alloc (.cells #[.int .i64 0, .int .i64 0] 24)) (w.heap.size) (.int .i64 0) (.int .i64 0) := by simpa using C2.here w (.int .i64 0) (.int .i64 0) 24
  by_cases h : (1 ≤ n ∧ n ≤ 5) ∧ ascB (n + 1) xs
  · have hr : Hid (symRes n xs = .tuple #[.agg #[.int .i64 n, .int .i64 (symVals n (setL xs))], .int .i64 0]) := by unfold Hid symRes; rw [if_pos h]
    have HB : Hid (decide ((1 ≤ n ∧ n ≤ 5) ∧ ascB (n + 1) xs) = true) := decide_eq_true h
    have HX := Lib.hid h.2
    have n1 := h.1.1
    have n5 := h.1.2
    have HS : Hid (setL xs < 64) := sumTo_bd h.2 (by omega) n5 (Nat.le_refl _)
    clear h ha
    go_enter Try.func10, Try.ntmps10
    go_wp2_with (first | (go_at_call 28; (with_reducible refine (areB _ _ _ _ HA.out HB.out).mono ?_); rintro e w' ⟨rfl, rfl⟩) | (go_at_call 30; (with_reducible refine (setOf_any n _ _ _ HA.out HX.out (by omega) n5).mono ?_); rintro e w' ⟨rfl, rfl⟩) | (go_at_call 29; (with_reducible refine (symmetricTable_any _ _ _ n1 n5 HS.out).mono ?_); rintro e w' ⟨rfl, hb⟩; have hL := chain (B := w.heap.size) (a := w) (by go_grown) (Nat.le_refl _) hb; (first | replace k0 := keepAt hb k0 | replace k0 := keepAt hb (C2.alloc k0 _)); clear hb))
    refine bodyPost_ret (v := .tuple #[.agg #[.int .i64 n, .int .i64 (symVals n (setL xs))], .int .i64 0]) (by simp [results, Try.results10, go_sem, *]) rfl ?_
    exact ⟨by rw [hr.out], by go_grown⟩
  · have hr : Hid (symRes n xs = .tuple #[.agg #[.int .i64 0, .int .i64 0], .int .i64 2]) := by unfold Hid symRes; rw [if_neg h]
    have HB : Hid (decide ((1 ≤ n ∧ n ≤ 5) ∧ ascB (n + 1) xs) = false) := decide_eq_false h
    clear h ha
    go_enter Try.func10, Try.ntmps10
    go_wp2_with (first | (go_at_call 28; (with_reducible refine (areB _ _ _ _ HA.out HB.out).mono ?_); rintro e w' ⟨rfl, rfl⟩))
    refine bodyPost_ret (v := .tuple #[.agg #[.int .i64 0, .int .i64 0], .int .i64 2]) (by simp [results, Try.results10, go_sem, *]) rfl ?_
    exact ⟨by rw [hr.out], by go_grown⟩

end Go.Proofs.Ytlcfecccpbeofaa
