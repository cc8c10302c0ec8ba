/- SymmetricTable: the model's. -/
import Derived.Test.YtlcfecccpbeofaaSymM
import Derived.Test.YtlcfecccpbeofaaSPart
namespace Go.Proofs.Ytlcfecccpbeofaa
open Go.RowKit
set_option linter.unusedVariables false

theorem low_fin : ∀ j : Fin 32, 0 < j.val → onesN (j.val &&& (j.val - 1)) + 1 = onesN j.val ∧ (j.val &&& (j.val - 1)) < j.val := by decide +kernel
theorem ones_zero : onesN 0 = 0 := by decide

set_option maxHeartbeats 1000000 in
theorem l03Ones_any (k : Nat) (w : World) (hk : k < 32) :
    Calls Try.prog 49 #[.int .i64 (k : Int)] w fun e w' => e = .returned (.int .i64 (onesN k : Int)) ∧ w = w' := by
  obtain ⟨K, hK⟩ : ∃ K, onesN k = K := ⟨_, rfl⟩
  have HK := Lib.hid hK
  have HK5 : Hid (K ≤ 5) := by rw [← hK]; exact onesN_le k
  rw [hK]
  clear hK
  go_enter Try.func49, Try.ntmps49
  go_wp2_with fail
  go_loop [0, 3] (fun r c => ∃ a b : Nat, a < 32 ∧ r = .int .i64 (a : Int) ∧ c = .int .i64 (b : Int) ∧ Hid (onesN a + b = K)) (fun r _ => (intOf r).toNat)
  case atStart => exact ⟨k, 0, hk, rfl, rfl, by unfold Hid; rw [HK.out]; rfl⟩
  case round =>
    obtain ⟨a, b, ha, rfl, rfl, HE⟩ := hrel
    by_cases hlt : (0 : Int) < (a : Int)
    · have hl := low_fin ⟨a, ha⟩ (show 0 < a by omega)
      have HL : Hid (onesN (a &&& (a - 1)) + 1 = onesN a) := hl.1
      have HM : Hid ((a &&& (a - 1)) < a) := hl.2
      clear hl
      have h1 : (a : Int) - 1 = ((a - 1 : Nat) : Int) := by omega
      have h2 : bits .and .i64 (a : Int) ((a - 1 : Nat) : Int) = ((a &&& (a - 1) : Nat) : Int) := i64_and a (a - 1) (by omega) (by omega)
      have h3 : wrap64 ((b : Int) + 1) = ((b + 1 : Nat) : Int) := by rw [IntWalk.wrap64_in _ (by have := HE.out; have := HK5.out; omega)]; omega
      go_wp2_with fail
      exact ⟨⟨a &&& (a - 1), b + 1, by have := HM.out; omega, rfl, by rw [h3], by unfold Hid; have := HE.out; have := HL.out; omega⟩, by have := HM.out; show (((a &&& (a - 1) : Nat) : Int)).toNat < ((a : Nat) : Int).toNat; rw [Int.toNat_natCast, Int.toNat_natCast]; exact this⟩
    · obtain rfl : a = 0 := by omega
      have HB : Hid (b = K) := by have := HE.out; rw [ones_zero] at this; unfold Hid; omega
      go_wp2_with fail
      go_ret
      exact ⟨by rw [← HB.out]; rfl, rfl⟩

theorem mem_getD {x : Int} {xs : List Int} : x ∈ xs ↔ ∃ i, i < xs.length ∧ xs.getD i 0 = x := by
  constructor
  · intro h
    obtain ⟨i, hi, e⟩ := List.mem_iff_getElem.1 h
    exact ⟨i, hi, by simp [List.getD_eq_getElem?_getD, hi, e]⟩
  · rintro ⟨i, hi, e⟩
    rw [← e]
    simp [List.getD_eq_getElem?_getD, hi]

/-- the first place of a list at which a number stands -/
theorem first_at (x : Int) (xs : List Int) : ∃ j, j ≤ xs.length ∧ (∀ i, i < j → xs.getD i 0 ≠ x) ∧ (j < xs.length → xs.getD j 0 = x) ∧ (decide (x ∈ xs) = decide (j < xs.length)) := by
  have main : ∀ m, m ≤ xs.length → (∀ i, i < m → xs.getD i 0 ≠ x) ∨ ∃ j, j < xs.length ∧ (∀ i, i < j → xs.getD i 0 ≠ x) ∧ xs.getD j 0 = x := by
    intro m
    induction m with
    | zero => intro _; left; intro i hi; omega
    | succ m ih =>
      intro hm
      rcases ih (by omega) with hall | hbad
      · by_cases hk : xs.getD m 0 = x
        · right; exact ⟨m, by omega, hall, hk⟩
        · left; intro i hi
          rcases Nat.lt_or_ge i m with h1 | h1
          · exact hall i h1
          · have : i = m := by omega
            subst this; exact hk
      · right; exact hbad
  rcases main xs.length (Nat.le_refl _) with hall | ⟨j, h1, h2, h3⟩
  · refine ⟨xs.length, Nat.le_refl _, hall, fun h => absurd h (Nat.lt_irrefl _), ?_⟩
    have : x ∉ xs := fun h => by obtain ⟨i, hi, e⟩ := mem_getD.1 h; exact hall i hi e
    simp [this]
  · refine ⟨j, by omega, h2, fun _ => h3, ?_⟩
    have : x ∈ xs := mem_getD.2 ⟨j, h1, h3⟩
    simp [this, h1]

set_option maxHeartbeats 1000000 in
theorem l03Has_any (v : Value) (x : Int) (xs : List Int) (w : World) (ha : Reads w v xs) :
    Calls Try.prog 48 #[v, .int .i64 x] w fun e w' => e = .returned (.bool (decide (x ∈ xs))) ∧ w = w' := by
  obtain ⟨j, hj, hno, hyes, hres⟩ := first_at x xs
  have HR := Lib.hid hres
  clear hres
  obtain ⟨a, ca, rfl, hm, ha'⟩ := ha
  unfold maxLen at hm
  rcases ha' with rfl | ⟨b, off, rfl, ha'⟩
  · go_enter Try.func48, Try.ntmps48
    go_wp2_with fail
    refine wp_loop_rounds 1 ?_
    rw [rounds_succ]
    go_wp2_with fail
    go_ret
    exact ⟨by simp, rfl⟩
  · have Ha := Lib.hid ha'
    have HNo := Lib.hid hno
    have HY := Lib.hid hyes
    clear ha' hno hyes
    generalize decide (x ∈ xs) = r at *
    generalize hnn : xs.length = m at *
    clear hnn
    go_enter Try.func48, Try.ntmps48
    go_wp2_with fail
    go_loop [5] (fun c => ∃ k : Nat, k ≤ j ∧ c = .int .i64 (k : Int)) (fun c => m - (intOf c).toNat)
    case atStart => exact ⟨0, Nat.zero_le _, rfl⟩
    case round =>
      obtain ⟨k, hk, rfl⟩ := hrel
      by_cases hlt : k < m
      · have hca := Ha.out k hlt
        have hi1 : (k : Int) < (m : Int) := by omega
        have hi0 : (0 : Int) ≤ (k : Int) := by omega
        by_cases hkj : k < j
        · have hne : (xs.getD k 0 == x) = false := by have := HNo.out k hkj; simpa using this
          generalize xs.getD k 0 = y at *
          go_wp2_with fail
          exact ⟨⟨k + 1, by omega, by go_num⟩, by simp [intOf]; omega⟩
        · have e : k = j := by omega
          have hne : (xs.getD k 0 == x) = true := by have := HY.out (by omega); rw [e]; simpa using this
          have hr : Hid (r = true) := by unfold Hid; rw [HR.out]; exact decide_eq_true (by omega)
          clear e
          generalize xs.getD k 0 = y at *
          go_wp2_with fail
          go_ret
          exact ⟨by rw [hr.out]; rfl, rfl⟩
      · have hr : Hid (r = false) := by unfold Hid; rw [HR.out]; exact decide_eq_false (by omega)
        have hi1 : ¬ (k : Int) < (m : Int) := by omega
        go_wp2_with fail
        go_ret
        exact ⟨by rw [hr.out]; rfl, rfl⟩

/-- the code of n and a list of numbers -/
def givCode (n : Int) (xs : List Int) : Int := if (1 ≤ n ∧ n ≤ 5) ∧ ascB (n + 1) xs then 0 else 2

set_option maxRecDepth 100000 in
set_option maxHeartbeats 2000000 in
theorem l03Given_any (n : Int) (v : Value) (xs : List Int) (w : World) (ha : Reads w v xs) :
    Calls Try.prog 26 #[.int .i64 n, v] w fun e w' => e = .returned (.int .i64 (givCode n xs)) ∧ Below w.heap.size w w' := by
  obtain ⟨a, ca, rfl, hm, ha'⟩ := ha
  unfold maxLen at hm
  by_cases hn : 1 ≤ n ∧ n ≤ 5
  · have Hn := Lib.hid hn
    rcases ha' with rfl | ⟨b, off, rfl, ha'⟩
    · have hr : Hid (givCode n [] = 0) := by unfold Hid givCode; rw [if_pos ⟨Hn.out, fun i hi => absurd hi (by simp)⟩]
      clear hn
      go_enter Try.func26, Try.ntmps26
      go_wp2_with ((go_at_call 39; (with_reducible refine (l01In_yes _ _ _ _ Hn.out).mono ?_); rintro e w' ⟨rfl, rfl⟩))
      refine wp_loop_rounds 1 ?_
      rw [rounds_succ]
      go_wp2_with fail
      go_ret
      exact ⟨by rw [hr.out]; rfl, by go_grown⟩
    · obtain ⟨j, hj, hok, hbad⟩ : ∃ j, j ≤ xs.length ∧ (∀ i, i < j → okAt (n + 1) xs i) ∧ (j < xs.length → ¬ okAt (n + 1) xs j) := by
        by_cases h : ascB (n + 1) xs
        · exact ⟨xs.length, Nat.le_refl _, h, fun hh => absurd hh (Nat.lt_irrefl _)⟩
        · obtain ⟨j, h1, h2, h3⟩ := first_bad _ _ h
          exact ⟨j, by omega, h2, fun _ => h3⟩
      have hres : Hid (givCode n xs = if j = xs.length then 0 else 2) := by
        unfold Hid givCode
        by_cases e : j = xs.length
        · rw [if_pos e, if_pos ⟨Hn.out, by subst e; exact hok⟩]
        · rw [if_neg e, if_neg (fun h => hbad (by omega) (h.2 j (by omega)))]
      have Ha := Lib.hid ha'
      have Hok := Lib.hid hok
      have Hbad := Lib.hid hbad
      clear ha' hok hbad hn
      generalize hnn : xs.length = m at *
      clear hnn
      go_enter Try.func26, Try.ntmps26
      go_wp2_with ((go_at_call 39; (with_reducible refine (l01In_yes _ _ _ _ Hn.out).mono ?_); rintro e w' ⟨rfl, rfl⟩))
      go_loopw [5] (fun c wr => ∃ k : Nat, k ≤ j ∧ c = .int .i64 (k : Int) ∧ Below w.heap.size w wr) (fun c _ => m - (intOf c).toNat)
      case atStart => exact ⟨0, Nat.zero_le _, rfl, by go_grown⟩
      case round =>
        obtain ⟨k, hk, rfl, hL⟩ := hrel
        by_cases hlt : k < m
        · have hca := cell_later hL (Ha.out k hlt)
          have hi1 : (k : Int) < (m : Int) := by omega
          have hi0 : (0 : Int) ≤ (k : Int) := by omega
          by_cases hkj : k < j
          · have hK := Hok.out k hkj
            have HB : Hid (0 ≤ xs.getD k 0 ∧ xs.getD k 0 ≤ n) := ⟨hK.1.1, by have := hK.1.2; omega⟩
            rcases Nat.eq_zero_or_pos k with hz | hp
            · subst hz
              have hd : decide ((0 : Int) < ((0 : Nat) : Int)) = false := rfl
              clear hK
              simp only [Nat.add_zero] at hca
              generalize xs.getD 0 0 = x at *
              go_wp2_with fail
              go_quiet ((go_at_call 39; exact quiet1 (l01In_yes _ _ _ _ HB.out)))
              go_wp2_with fail
              exact ⟨⟨0 + 1, by omega, by go_num, Bdrew hL _⟩, by simp [intOf]; omega⟩
            · have hd : decide ((0 : Int) < (k : Int)) = true := decide_eq_true (by omega)
              have hcp := cell_later hL (Ha.out (k - 1) (by omega))
              have hp1 : (0 : Int) < (k : Int) := by omega
              have hp2 : (0 : Int) ≤ (k : Int) - 1 := by omega
              have hp3 : (k : Int) - 1 < (m : Int) := by omega
              have hp4 : ((k : Int) - 1).toNat = k - 1 := by omega
              have hw2 : IntKind.i64.wrap ((k : Int) - 1) = (k : Int) - 1 := IntWalk.i64_in _ (by omega)
              have hq : decide (xs.getD k 0 ≤ xs.getD (k - 1) 0) = false := decide_eq_false (by have := hK.2 hp; omega)
              have hq2 : ¬ xs.getD k 0 ≤ xs.getD (k - 1) 0 := by have := hK.2 hp; omega
              clear hK
              generalize xs.getD k 0 = x at *
              generalize xs.getD (k - 1) 0 = y at *
              go_wp2_with fail
              go_quiet ((go_at_call 39; exact quiet1 (l01In_yes _ _ _ _ HB.out)))
              go_wp2_with fail
              exact ⟨⟨k + 1, by omega, by go_num, Bdrew hL _⟩, by simp [intOf]; omega⟩
          · have e : k = j := by omega
            subst e
            have hB := Hbad.out hlt
            have hr : Hid (givCode n xs = 2) := by have := hres.out; rw [if_neg (by omega)] at this; exact this
            by_cases hin : 0 ≤ xs.getD k 0 ∧ xs.getD k 0 ≤ n
            · have HB := Lib.hid hin
              have hp : 0 < k ∧ xs.getD k 0 ≤ xs.getD (k - 1) 0 := by
                rcases Nat.eq_zero_or_pos k with hz | hp
                · exact absurd ⟨⟨hin.1, by omega⟩, fun h => by omega⟩ hB
                · refine ⟨hp, Int.not_lt.1 fun h => hB ⟨⟨hin.1, by omega⟩, fun _ => h⟩⟩
              obtain ⟨hp, hq2⟩ := hp
              have hd : decide ((0 : Int) < (k : Int)) = true := decide_eq_true (by omega)
              have hcp := cell_later hL (Ha.out (k - 1) (by omega))
              have hp1 : (0 : Int) < (k : Int) := by omega
              have hp2 : (0 : Int) ≤ (k : Int) - 1 := by omega
              have hp3 : (k : Int) - 1 < (m : Int) := by omega
              have hp4 : ((k : Int) - 1).toNat = k - 1 := by omega
              have hw2 : IntKind.i64.wrap ((k : Int) - 1) = (k : Int) - 1 := IntWalk.i64_in _ (by omega)
              have hq : decide (xs.getD k 0 ≤ xs.getD (k - 1) 0) = true := decide_eq_true hq2
              clear hB hin
              generalize xs.getD k 0 = x at *
              generalize xs.getD (k - 1) 0 = y at *
              go_wp2_with fail
              go_quiet ((go_at_call 39; exact quiet1 (l01In_yes _ _ _ _ HB.out)))
              go_wp2_with fail
              go_ret
              exact ⟨by rw [hr.out]; rfl, Bdrew hL _⟩
            · have HB := Lib.hid hin
              clear hB hin
              rcases Nat.eq_zero_or_pos k with hz | hp
              · subst hz
                simp only [Nat.add_zero] at hca
                generalize xs.getD 0 0 = x at *
                go_wp2_with fail
                go_quiet ((go_at_call 39; exact quiet1 (l01In_no _ _ _ _ HB.out)))
                go_wp2_with fail
                go_ret
                exact ⟨by rw [hr.out]; rfl, Bdrew hL _⟩
              · generalize xs.getD k 0 = x at *
                go_wp2_with fail
                go_quiet ((go_at_call 39; exact quiet1 (l01In_no _ _ _ _ HB.out)))
                go_wp2_with fail
                go_ret
                exact ⟨by rw [hr.out]; rfl, Bdrew hL _⟩
        · have hr : Hid (givCode n xs = 0) := by have := hres.out; rw [if_pos (by omega)] at this; exact this
          have hi1 : ¬ (k : Int) < (m : Int) := by omega
          go_wp2_with fail
          go_ret
          exact ⟨by rw [hr.out]; rfl, hL⟩
  · have hr : Hid (givCode n xs = 2) := by unfold Hid givCode; rw [if_neg (fun h => hn h.1)]
    have Hn := Lib.hid hn
    clear hn ha'
    go_enter Try.func26, Try.ntmps26
    go_wp2_with ((go_at_call 39; (with_reducible refine (l01In_no _ _ _ _ Hn.out).mono ?_); rintro e w' ⟨rfl, rfl⟩))
    go_ret
    exact ⟨by rw [hr.out]; rfl, by go_grown⟩

theorem hasB (v : Value) (x : Int) (xs : List Int) (w : World) (ha : Reads w v xs) {b : Bool} (hb : decide (x ∈ xs) = b) :
    Calls Try.prog 48 #[v, .int .i64 x] w fun e w' => e = .returned (.bool b) ∧ w = w' := by
  have := l03Has_any v x xs w ha
  rwa [hb] at this

set_option maxRecDepth 100000 in
set_option maxHeartbeats 2000000 in
theorem l03Table_any (n : Int) (v : Value) (xs : List Int) (w : World) (ha : Reads w v xs) (n1 : 1 ≤ n) (n5 : n ≤ 5) (hx : ascB (n + 1) xs) :
    Calls Try.prog 27 #[.int .i64 n, v] w fun e w' => e = .returned (.agg #[.int .i64 n, .int .i64 (symVals n (setL xs))]) ∧ Below w.heap.size w w' := by
  have Hr : Hid (rcZ n = ((2 ^ n.toNat : Nat) : Int)) := rfl
  have hr := rcZ_bd n1 n5
  have HX := Lib.hid hx
  have HA := Lib.hid ha
  clear hx ha
  have HM : Hid (∀ k, k < 6 → (((k : Nat) : Int) ∈ xs ↔ dig (setL xs) k = 1)) := fun k hk => mem_setL HX.out (by omega) n5 hk
  have HV : Hid (symVals n (setL xs) = buildZ (fun r => dig (setL xs) (onesN r)) (2 ^ n.toNat)) := rfl
  generalize setL xs = S at *
  have k0 : C2 ((w.alloc (.cells #[.int .i64 0, .int .i64 0] 24)).alloc (.cells #[.int .i64 n, .int .i64 0] 24)) (w.heap.size) (.int .i64 0) (.int .i64 0) := by simpa using (C2.here w (.int .i64 0) (.int .i64 0) 24).alloc (.cells #[.int .i64 n, .int .i64 0] 24)
  have k1 : C2 ((w.alloc (.cells #[.int .i64 0, .int .i64 0] 24)).alloc (.cells #[.int .i64 n, .int .i64 0] 24)) (w.heap.size + 1) (.int .i64 n) (.int .i64 0) := by simpa using C2.here (w.alloc (.cells #[.int .i64 0, .int .i64 0] 24)) (.int .i64 n) (.int .i64 0) 24
  go_enter Try.func27, Try.ntmps27
  go_wp2_with fail
  go_loopw [6] (fun c wr => ∃ k : Nat, (k : Int) ≤ rcZ n ∧ c = .int .i64 (k : Int) ∧ Below w.heap.size w wr ∧ C2 wr w.heap.size (.int .i64 0) (.int .i64 0) ∧ C2 wr (w.heap.size + 1) (.int .i64 n) (.int .i64 (buildZ (fun r => dig S (onesN r)) k)))
    (fun c _ => (rcZ n - intOf c).toNat)
  case atStart => exact ⟨0, by omega, rfl, by go_grown, k0, k1⟩
  case round =>
    clear k0 k1
    obtain ⟨k, hk, rfl, hL, k0, k1⟩ := hrel
    by_cases hlt : (k : Int) < rcZ n
    · have hk32 : k < 32 := by omega
      have hu : IntKind.u64.wrap (k : Int) = (k : Int) := IntWalk.u64_in _ (by omega)
      have hm64 : min k 64 = k := by omega
      have hm := HM.out (onesN k) (by have := onesN_le k; omega)
      have HAk := Lib.hid (HA.out.keep hL)
      by_cases hd : dig S (onesN k) = 1
      · have HB : Hid (decide ((onesN k : Int) ∈ xs) = true) := decide_eq_true (hm.2 hd)
        have Hs := Lib.hid (build_step1 (fun r => dig S (onesN r)) k hk32 hd)
        clear hm hd
        generalize buildZ (fun r => dig S (onesN r)) k = y at *
        go_wp2_with (first | (go_at_call 47; (with_reducible refine (l01Rows_any _ _ n1 n5).mono ?_); rintro e w' ⟨rfl, rfl⟩) | (go_at_call 49; (with_reducible refine (l03Ones_any k _ hk32).mono ?_); rintro e w' ⟨rfl, rfl⟩) | (go_at_call 48; (with_reducible refine (hasB _ _ _ _ HAk.out HB.out).mono ?_); rintro e w' ⟨rfl, rfl⟩))
        (try rw [wrapW])
        (rw [Hs.out]; exact ⟨⟨k + 1, by omega, by go_num, by go_grown, k0.set _ _ _ (by omega), k1.put1 _⟩, by simp [intOf]; omega⟩)
      · have HB : Hid (decide ((onesN k : Int) ∈ xs) = false) := decide_eq_false (fun h => hd (hm.1 h))
        have Hs := Lib.hid (build_step0 (fun r => dig S (onesN r)) k (by have := dig_lt S (onesN k); omega))
        clear hm hd
        go_wp2_with (first | (go_at_call 47; (with_reducible refine (l01Rows_any _ _ n1 n5).mono ?_); rintro e w' ⟨rfl, rfl⟩) | (go_at_call 49; (with_reducible refine (l03Ones_any k _ hk32).mono ?_); rintro e w' ⟨rfl, rfl⟩) | (go_at_call 48; (with_reducible refine (hasB _ _ _ _ HAk.out HB.out).mono ?_); rintro e w' ⟨rfl, rfl⟩))
        exact ⟨⟨k + 1, by omega, by go_num, by go_grown, k0, by rw [Hs.out]; exact k1⟩, by simp [intOf]; omega⟩
    · have Hk : Hid ((k : Nat) = 2 ^ n.toNat) := by have := Hr.out; unfold Hid; omega
      rw [Hk.out, ← HV.out] at k1
      go_wp2_with ((go_at_call 47; (with_reducible refine (l01Rows_any _ _ n1 n5).mono ?_); rintro e w' ⟨rfl, rfl⟩))
      refine bodyPost_ret (v := .agg #[.int .i64 n, .int .i64 (symVals n S)]) (by simp [results, Try.results27, go_sem, *]) rfl ?_
      exact ⟨by rfl, by go_grown⟩

theorem givB (n : Int) (v : Value) (xs : List Int) (w : World) (ha : Reads w v xs) {c : Int} (hc : givCode n xs = c) :
    Calls Try.prog 26 #[.int .i64 n, v] w fun e w' => e = .returned (.int .i64 c) ∧ Below w.heap.size w w' := by
  have := l03Given_any n v xs w ha
  rwa [hc] at this

set_option maxRecDepth 100000 in
set_option maxHeartbeats 1000000 in
theorem sSymmetricTable_any (n : Int) (v : Value) (xs : List Int) (w : World) (ha : Reads w v xs) :
    Calls Try.prog 8 #[.int .i64 n, v] w fun e w' => e = .returned (symRes n xs) ∧ Below w.heap.size w w' := by
  have HA0 := Lib.hid ha
  have HA := Lib.hid (ha.keep ((Below.refl _ _).alloc (Nat.le_refl _) (.cells #[.int .i64 0, .int .i64 0] 24)))
  have k0 : C2 (w.alloc (.cells #[.int .i64 0, .int .i64 0] 24)) (w.heap.size) (.int .i64 0) (.int .i64 0) := by simpa using C2.here w (.int .i64 0) (.int .i64 0) 24
  by_cases h : (1 ≤ n ∧ n ≤ 5) ∧ ascB (n + 1) xs
  · have hr : Hid (symRes n xs = .tuple #[.agg #[.int .i64 n, .int .i64 (symVals n (setL xs))], .int .i64 0]) := by unfold Hid symRes; rw [if_pos h]
    have HB : Hid (givCode n xs = 0) := if_pos h
    have HX := Lib.hid h.2
    have n1 := h.1.1
    have n5 := h.1.2
    clear h ha
    go_enter Try.func8, Try.ntmps8
    go_wp2_with (first | (go_at_call 26; (with_reducible refine (givB _ _ _ _ HA.out HB.out).mono ?_); rintro e w' ⟨rfl, hb⟩; have hL := chain (B := w.heap.size) (a := w) (by go_grown) (Nat.le_refl _) hb; (first | replace k0 := keepAt hb k0 | replace k0 := keepAt hb (C2.alloc k0 _)); clear hb) | (go_at_call 27; (with_reducible refine (l03Table_any _ _ xs _ (HA0.out.keep (by go_grown)) n1 n5 HX.out).mono ?_); rintro e w' ⟨rfl, hb⟩; have hL := chain (B := w.heap.size) (a := w) (by go_grown) (Nat.le_refl _) hb; (first | replace k0 := keepAt hb k0 | replace k0 := keepAt hb (C2.alloc k0 _)); clear hb))
    refine bodyPost_ret (v := .tuple #[.agg #[.int .i64 n, .int .i64 (symVals n (setL xs))], .int .i64 0]) (by simp [results, Try.results8, go_sem, *]) rfl ?_
    exact ⟨by rw [hr.out], by go_grown⟩
  · have hr : Hid (symRes n xs = .tuple #[.agg #[.int .i64 0, .int .i64 0], .int .i64 2]) := by unfold Hid symRes; rw [if_neg h]
    have HB : Hid (givCode n xs = 2) := if_neg h
    clear h ha
    go_enter Try.func8, Try.ntmps8
    go_wp2_with ((go_at_call 26; (with_reducible refine (givB _ _ _ _ HA.out HB.out).mono ?_); rintro e w' ⟨rfl, hb⟩; have hL := chain (B := w.heap.size) (a := w) (by go_grown) (Nat.le_refl _) hb; (first | replace k0 := keepAt hb k0 | replace k0 := keepAt hb (C2.alloc k0 _)); clear hb))
    refine bodyPost_ret (v := .tuple #[.agg #[.int .i64 0, .int .i64 0], .int .i64 2]) (by simp [results, Try.results8, go_sem, *]) rfl ?_
    exact ⟨by rw [hr.out], by go_grown⟩

end Go.Proofs.Ytlcfecccpbeofaa
