/- ValueOf: the program's and the model's. -/
import Derived.Test.YtibfenkaoaclfaaFra
namespace Go.Proofs.Ytibfenkaoaclfaa
open Go.RowKit
set_option linter.unusedVariables false

/-- a step of Horner's way, as numbers of Go -/
theorem ov_step {a b : Int} {xs : List Int} (b1 : 1 ≤ b) (b2 : b ≤ 100) (ha : -b ≤ a ∧ a ≤ b) (hx : inM 1000000 xs) (hl : xs.length ≤ 6) (i : Nat) (hi : i < xs.length) :
    wrap64 (wrap64 (ovL a b (xs.drop (i + 1)) * a) + wrap64 (xs.getD i 0 * b ^ (xs.length - 1 - i))) = ovL a b (xs.drop i) := by
  rw [wrap_wrap_add, wrap_add_wrap, ← ovL_drop a b xs i hi]
  have := ovL_bd6 b1 b2 ha (xs.drop i) (inM_drop hx i) (by simp; omega)
  exact IntWalk.wrap64_in _ (by omega)
theorem pw_step {b : Int} (b1 : 1 ≤ b) (b2 : b ≤ 100) (n : Nat) (hn : n + 1 ≤ 5) : wrap64 (b ^ n * b) = b ^ (n + 1) := by
  have e : b ^ n * b = b ^ (n + 1) := (Int.pow_succ b n).symm
  rw [e]
  have := pow_bd b1 b2 hn
  exact IntWalk.wrap64_in _ (by omega)

set_option maxRecDepth 100000 in
set_option maxHeartbeats 2000000 in
theorem at_any (v : Value) (xs : List Int) (a b : Int) (w : World) (ha : Reads w v xs) (hc : coB 1000000 6 xs = true) (hf : frB a b = true) :
    Calls Try.prog 40 #[v, .int .i64 a, .int .i64 b] w fun e w' => e = .returned (.tuple #[.int .i64 (lowA (ovL a b xs) (b ^ (xs.length - 1))), .int .i64 (lowB (ovL a b xs) (b ^ (xs.length - 1)))]) ∧ Below w.heap.size w w' := by
  obtain ⟨n1, n6, hin⟩ := of_decide_eq_true (show decide (1 ≤ xs.length ∧ (xs.length : Int) ≤ 6 ∧ inM 1000000 xs) = true from hc)
  obtain ⟨b1, b2, hab⟩ := frB_out hf
  have HS : Hid (∀ i, i < xs.length → wrap64 (wrap64 (ovL a b (xs.drop (i + 1)) * a) + wrap64 (xs.getD i 0 * b ^ (xs.length - 1 - i))) = ovL a b (xs.drop i)) := fun i hi => ov_step b1 b2 hab hin (by omega) i hi
  have HP : Hid (∀ n, n + 1 ≤ 5 → wrap64 (b ^ n * b) = b ^ (n + 1)) := fun n hn => pw_step b1 b2 n hn
  have HL := Lib.hid (fun w => lowest_i (ovL a b xs) (b ^ (xs.length - 1)) w (ovL_bd6 b1 b2 hab xs hin (by omega)) (pow_bd b1 b2 (by omega)))
  have HZ : Hid (ovL a b (xs.drop (xs.length - 1)) = xs.getD (xs.length - 1) 0 ∧ b ^ (xs.length - 1 - (xs.length - 1)) = 1) := by
    refine ⟨?_, by rw [Nat.sub_self, Int.pow_zero]⟩
    rw [ovL_drop a b xs _ (by omega), show xs.length - 1 + 1 = xs.length by omega, List.drop_length, Nat.sub_self]
    simp [ovL]
  obtain ⟨A, hA⟩ : ∃ A, lowA (ovL a b xs) (b ^ (xs.length - 1)) = A := ⟨_, rfl⟩
  obtain ⟨B, hB⟩ : ∃ B, lowB (ovL a b xs) (b ^ (xs.length - 1)) = B := ⟨_, rfl⟩
  rw [hA, hB] at HL ⊢
  clear hA hB hc hf b1 b2 hab hin
  obtain ⟨ad, ca, rfl, hm, ha'⟩ := ha
  obtain ⟨bl, off, rfl, ha0⟩ : ∃ b off, ad = some ⟨b, off, none⟩ ∧ ∀ i, i < xs.length → w.cell? ⟨b, off + i, none⟩ = some (.int .i64 (xs.getD i 0)) := by
    rcases ha' with rfl | h
    · simp at n1
    · exact h
  have Ha := Lib.hid ha0
  clear ha' ha0 hm
  obtain ⟨n, hn⟩ : ∃ n, xs.length = n + 1 := ⟨xs.length - 1, by omega⟩
  have HN := Lib.hid hn
  rw [hn] at Ha HS HL HZ n6 ⊢
  clear hn n1
  simp only [Nat.add_sub_cancel] at HL HZ HS
  have hc0 := Ha.out n (by omega)
  have hx0 := HZ.out.1
  rw [← hx0] at hc0
  have hi0 : (0 : Int) ≤ (n : Int) := by omega
  have hi1 : (n : Int) < (n : Int) + 1 := by omega
  clear hx0
  generalize hg : ovL a b (xs.drop n) = g at *
  have HG := Lib.hid hg
  clear hg
  go_enter Try.func40, Try.ntmps40
  go_wp2_with fail
  go_loop [9, 10, 11] (fun so su si => ∃ J : Int, si = .int .i64 J ∧ -1 ≤ J ∧ J < (n : Int) ∧ so = .int .i64 (ovL a b (xs.drop (J + 1).toNat)) ∧ su = .int .i64 (b ^ (n - (J + 1).toNat))) (fun _ _ si => (intOf si + 1).toNat)
  case atStart =>
    refine ⟨(n : Int) - 1, rfl, by omega, by omega, ?_, ?_⟩
    · rw [show ((n : Int) - 1 + 1).toNat = n by omega, HG.out]
    · rw [show ((n : Int) - 1 + 1).toNat = n by omega, Nat.sub_self, Int.pow_zero]
  case round =>
    obtain ⟨J, rfl, hJ0, hJ1, rfl, rfl⟩ := hrel
    by_cases hJ : 0 ≤ J
    · obtain ⟨i, rfl⟩ := Int.eq_ofNat_of_zero_le hJ
      have hin : i < n := by omega
      have e1 : ((i : Int) + 1).toNat = i + 1 := by omega
      rw [e1]
      have hca := Ha.out i (by omega)
      have hS := HS.out i (by omega)
      have hP := HP.out (n - (i + 1)) (by omega)
      rw [show n - (i + 1) + 1 = n - i by omega] at hP
      rw [← hP] at hS
      have HS1 := Lib.hid hS
      have HP1 := Lib.hid hP
      have hi2 : (i : Int) < (n : Int) + 1 := by omega
      clear hS hP e1
      generalize ovL a b (xs.drop (i + 1)) = p at *
      generalize b ^ (n - (i + 1)) = u at *
      generalize xs.getD i 0 = x at *
      go_wp2_with fail
      rw [HS1.out, HP1.out]
      refine ⟨⟨(i : Int) - 1, rfl, by omega, by omega, ?_, ?_⟩, ?_⟩
      · rw [show ((i : Int) - 1 + 1).toNat = i by omega]
      · rw [show ((i : Int) - 1 + 1).toNat = i by omega]
      · simp [intOf]
    · obtain rfl : J = -1 := by omega
      rw [show ((-1 : Int) + 1).toNat = 0 by rfl, List.drop_zero, Nat.sub_zero]
      generalize ovL a b xs = p at *
      generalize b ^ n = u at *
      go_wp2_with fail
      refine (HL.out _).mono ?_
      rintro e w' ⟨rfl, hL⟩
      go_wp2_with fail
      go_ret2
      exact ⟨rfl, hL⟩

set_option maxRecDepth 100000 in
set_option maxHeartbeats 2000000 in
theorem l05Value_any (v : Value) (xs : List Int) (a b : Int) (w : World) (ha : Reads w v xs) (hc : coB 1000000 6 xs = true) (hf : frB a b = true) :
    Calls Try.prog 38 #[v, .int .i64 a, .int .i64 b] w fun e w' => e = .returned (.tuple #[.int .i64 (lowA (ovL a b xs) (b ^ (xs.length - 1))), .int .i64 (lowB (ovL a b xs) (b ^ (xs.length - 1)))]) ∧ Below w.heap.size w w' := by
  obtain ⟨n1, n6, hin⟩ := of_decide_eq_true (show decide (1 ≤ xs.length ∧ (xs.length : Int) ≤ 6 ∧ inM 1000000 xs) = true from hc)
  obtain ⟨b1, b2, hab⟩ := frB_out hf
  have HS : Hid (∀ i, i < xs.length → wrap64 (wrap64 (ovL a b (xs.drop (i + 1)) * a) + wrap64 (xs.getD i 0 * b ^ (xs.length - 1 - i))) = ovL a b (xs.drop i)) := fun i hi => ov_step b1 b2 hab hin (by omega) i hi
  have HP : Hid (∀ n, n + 1 ≤ 5 → wrap64 (b ^ n * b) = b ^ (n + 1)) := fun n hn => pw_step b1 b2 n hn
  have HL := Lib.hid (fun w => lowest_s (ovL a b xs) (b ^ (xs.length - 1)) w (ovL_bd6 b1 b2 hab xs hin (by omega)) (pow_bd b1 b2 (by omega)))
  have HZ : Hid (ovL a b (xs.drop (xs.length - 1)) = xs.getD (xs.length - 1) 0 ∧ b ^ (xs.length - 1 - (xs.length - 1)) = 1) := by
    refine ⟨?_, by rw [Nat.sub_self, Int.pow_zero]⟩
    rw [ovL_drop a b xs _ (by omega), show xs.length - 1 + 1 = xs.length by omega, List.drop_length, Nat.sub_self]
    simp [ovL]
  obtain ⟨A, hA⟩ : ∃ A, lowA (ovL a b xs) (b ^ (xs.length - 1)) = A := ⟨_, rfl⟩
  obtain ⟨B, hB⟩ : ∃ B, lowB (ovL a b xs) (b ^ (xs.length - 1)) = B := ⟨_, rfl⟩
  rw [hA, hB] at HL ⊢
  clear hA hB hc hf b1 b2 hab hin
  obtain ⟨ad, ca, rfl, hm, ha'⟩ := ha
  obtain ⟨bl, off, rfl, ha0⟩ : ∃ b off, ad = some ⟨b, off, none⟩ ∧ ∀ i, i < xs.length → w.cell? ⟨b, off + i, none⟩ = some (.int .i64 (xs.getD i 0)) := by
    rcases ha' with rfl | h
    · simp at n1
    · exact h
  have Ha := Lib.hid ha0
  clear ha' ha0 hm
  obtain ⟨n, hn⟩ : ∃ n, xs.length = n + 1 := ⟨xs.length - 1, by omega⟩
  have HN := Lib.hid hn
  rw [hn] at Ha HS HL HZ n6 ⊢
  clear hn n1
  simp only [Nat.add_sub_cancel] at HL HZ HS
  have HZ0 : Hid (ovL a b (xs.drop (n + 1)) = 0) := by rw [Hid, ← HN.out, List.drop_length]; rfl
  have hw : IntKind.i64.wrap ((n : Int) + 1 - 1) = (n : Int) := by rw [IntWalk.i64_in _ (by omega)]; omega
  go_enter Try.func38, Try.ntmps38
  go_wp2_with fail
  go_loop [8, 9, 10] (fun so su si => ∃ J : Int, si = .int .i64 J ∧ -1 ≤ J ∧ J ≤ (n : Int) ∧ so = .int .i64 (ovL a b (xs.drop (J + 1).toNat)) ∧ su = .int .i64 (b ^ (n - J.toNat))) (fun _ _ si => (intOf si + 1).toNat)
  case atStart =>
    refine ⟨(n : Int), rfl, by omega, by omega, ?_, ?_⟩
    · rw [show ((n : Int) + 1).toNat = n + 1 by omega, HZ0.out]
    · rw [Int.toNat_natCast, Nat.sub_self, Int.pow_zero]
  case round =>
    obtain ⟨J, rfl, hJ0, hJ1, rfl, rfl⟩ := hrel
    by_cases hJ : 0 ≤ J
    · obtain ⟨i, rfl⟩ := Int.eq_ofNat_of_zero_le hJ
      have hin : i < n + 1 := by omega
      have e1 : ((i : Int) + 1).toNat = i + 1 := by omega
      rw [e1, Int.toNat_natCast]
      have hca := Ha.out i (by omega)
      have HS1 := Lib.hid (HS.out i (by omega))
      have hi2 : (i : Int) < (n : Int) + 1 := by omega
      clear e1
      by_cases hip : 0 < i
      · have hP := HP.out (n - i) (by omega)
        rw [show n - i + 1 = n - (i - 1) by omega] at hP
        have HP1 := Lib.hid hP
        have hip2 : (0 : Int) < (i : Int) := by omega
        clear hP
        generalize ovL a b (xs.drop (i + 1)) = p at *
        generalize b ^ (n - i) = u at *
        generalize xs.getD i 0 = x at *
        go_wp2_with fail
        rw [HS1.out, HP1.out]
        refine ⟨⟨(i : Int) - 1, rfl, by omega, by omega, ?_, ?_⟩, ?_⟩
        · rw [show ((i : Int) - 1 + 1).toNat = i by omega]
        · rw [show ((i : Int) - 1).toNat = i - 1 by omega]
        · simp [intOf]
      · obtain rfl : i = 0 := by omega
        generalize ovL a b (xs.drop (0 + 1)) = p at *
        generalize hu : b ^ (n - 0) = u at *
        have HU := Lib.hid hu
        clear hu hip
        simp only [Nat.add_zero] at hca
        generalize xs.getD 0 0 = x at *
        go_wp2_with fail
        rw [HS1.out]
        refine ⟨⟨-1, rfl, by omega, by omega, ?_, ?_⟩, ?_⟩
        · rfl
        · rw [← HU.out]; rfl
        · simp [intOf]
    · obtain rfl : J = -1 := by omega
      rw [show ((-1 : Int) + 1).toNat = 0 by rfl, show (-1 : Int).toNat = 0 by rfl, List.drop_zero, Nat.sub_zero]
      generalize ovL a b xs = p at *
      generalize b ^ n = u at *
      go_wp2_with fail
      refine (HL.out _).mono ?_
      rintro e w' ⟨rfl, hL⟩
      go_wp2_with fail
      go_ret2
      exact ⟨rfl, hL⟩

/-- what ValueOf gives -/
def okV (xs : List Int) (a b : Int) : Bool := coB 1000000 6 xs && frB a b
def resValueOf_0 (xs : List Int) (a b : Int) : Int := if okV xs a b = true then lowA (ovL a b xs) (b ^ (xs.length - 1)) else 0
def resValueOf_1 (xs : List Int) (a b : Int) : Int := if okV xs a b = true then lowB (ovL a b xs) (b ^ (xs.length - 1)) else 0
def resValueOf_2 (xs : List Int) (a b : Int) : Int := if okV xs a b = true then 0 else 2

theorem resV_yes {xs : List Int} {a b : Int} (h1 : coB 1000000 6 xs = true) (h2 : frB a b = true) : resValueOf_0 xs a b = lowA (ovL a b xs) (b ^ (xs.length - 1)) ∧ resValueOf_1 xs a b = lowB (ovL a b xs) (b ^ (xs.length - 1)) ∧ resValueOf_2 xs a b = 0 := by
  have h : okV xs a b = true := by unfold okV; rw [h1, h2]; rfl
  exact ⟨if_pos h, if_pos h, if_pos h⟩
theorem resV_no {xs : List Int} {a b : Int} (hh : okV xs a b = false) : resValueOf_0 xs a b = 0 ∧ resValueOf_1 xs a b = 0 ∧ resValueOf_2 xs a b = 2 := by
  have h : ¬ okV xs a b = true := by rw [hh]; exact Bool.false_ne_true
  exact ⟨if_neg h, if_neg h, if_neg h⟩

set_option maxHeartbeats 1000000 in
theorem iValueOf_any (v : Value) (xs : List Int) (a b : Int) (w : World) (ha : Reads w v xs) :
    Calls Try.prog 17 #[v, .int .i64 a, .int .i64 b] w fun e w' => e = .returned (.tuple #[.int .i64 (resValueOf_0 xs a b), .int .i64 (resValueOf_1 xs a b), .int .i64 (resValueOf_2 xs a b)]) ∧ Below w.heap.size w w' := by
  have HA := Lib.hid ha
  cases hc : coB 1000000 6 xs
  · obtain ⟨r0, r1, r2⟩ := resV_no (xs := xs) (a := a) (b := b) (by unfold okV; rw [hc]; rfl)
    rw [r0, r1, r2]
    have HC := Lib.hid (areCo_any v xs 6 1000000 w ha (by decide) (by decide) hc)
    clear hc ha r0 r1 r2
    go_enter Try.func17, Try.ntmps17
    go_wp2_with fail
    refine HC.out.mono ?_
    rintro e w1 ⟨rfl, hL⟩
    go_wp2_with fail
    go_ret3
    exact ⟨rfl, hL⟩
  · have HC := Lib.hid (areCo_any v xs 6 1000000 w ha (by decide) (by decide) hc)
    cases hf : frB a b
    · obtain ⟨r0, r1, r2⟩ := resV_no (xs := xs) (a := a) (b := b) (by unfold okV; rw [hc, hf]; rfl)
      rw [r0, r1, r2]
      have HF := Lib.hid (fun w => isFraction_b a b w hf)
      clear hc ha r0 r1 r2 hf
      go_enter Try.func17, Try.ntmps17
      go_wp2_with fail
      refine HC.out.mono ?_
      rintro e w1 ⟨rfl, hL⟩
      go_wp2_with ((go_at_call 39; (with_reducible refine (HF.out _).mono ?_); rintro e w' ⟨rfl, rfl⟩))
      go_ret3
      exact ⟨rfl, hL⟩
    · obtain ⟨r0, r1, r2⟩ := resV_yes hc hf
      rw [r0, r1, r2]
      have HF := Lib.hid (fun w => isFraction_b a b w hf)
      have HV := Lib.hid (fun w h => at_any v xs a b w h hc hf)
      clear hc ha r0 r1 r2 hf
      go_enter Try.func17, Try.ntmps17
      go_wp2_with fail
      refine HC.out.mono ?_
      rintro e w1 ⟨rfl, hL⟩
      go_wp2_with ((go_at_call 39; (with_reducible refine (HF.out _).mono ?_); rintro e w' ⟨rfl, rfl⟩))
      refine (HV.out _ (HA.out.keep hL)).mono ?_
      rintro e w2 ⟨rfl, hb⟩
      have hL2 := chain (B := w.heap.size) (a := w) hL (Nat.le_refl _) hb
      go_wp2_with fail
      go_ret3
      exact ⟨rfl, hL2⟩

theorem frB_b {a b : Int} : (frB a b = true ↔ (1 ≤ b ∧ b ≤ 100) ∧ (-b ≤ a ∧ a ≤ b)) := by unfold frB; rw [decide_eq_true_iff]

set_option maxHeartbeats 1000000 in
theorem sValueOf_any (v : Value) (xs : List Int) (a b : Int) (w : World) (ha : Reads w v xs) :
    Calls Try.prog 16 #[v, .int .i64 a, .int .i64 b] w fun e w' => e = .returned (.tuple #[.int .i64 (resValueOf_0 xs a b), .int .i64 (resValueOf_1 xs a b), .int .i64 (resValueOf_2 xs a b)]) ∧ Below w.heap.size w w' := by
  have HA := Lib.hid ha
  cases hc : coB 1000000 6 xs
  · obtain ⟨r0, r1, r2⟩ := resV_no (xs := xs) (a := a) (b := b) (by unfold okV; rw [hc]; rfl)
    rw [r0, r1, r2]
    have HC := Lib.hid (l05List_any v xs 6 1000000 w ha (by decide) (by decide) hc)
    clear hc ha r0 r1 r2
    go_enter Try.func16, Try.ntmps16
    go_wp2_with fail
    refine HC.out.mono ?_
    rintro e w1 ⟨rfl, hL⟩
    go_wp2_with fail
    go_ret3
    exact ⟨rfl, hL⟩
  · have HC := Lib.hid (l05List_any v xs 6 1000000 w ha (by decide) (by decide) hc)
    by_cases hb1 : 1 ≤ b ∧ b ≤ 100
    · have H1 := Lib.hid (fun w => l01In_yes b 1 100 w hb1)
      have hneg : wrap64 (-b) = -b := IntWalk.wrap64_in _ (by omega)
      by_cases hb2 : -b ≤ a ∧ a ≤ b
      · obtain ⟨r0, r1, r2⟩ := resV_yes hc (frB_b.2 ⟨hb1, hb2⟩)
        rw [r0, r1, r2]
        have H2 := Lib.hid (fun w => l01In_yes a (-b) b w hb2)
        have HV := Lib.hid (fun w h => l05Value_any v xs a b w h hc (frB_b.2 ⟨hb1, hb2⟩))
        obtain ⟨hb11, hb12⟩ := hb1
        clear hc ha r0 r1 r2 hb2
        go_enter Try.func16, Try.ntmps16
        go_wp2_with fail
        refine HC.out.mono ?_
        rintro e w1 ⟨rfl, hL⟩
        go_wp2_with (first | (go_at_call 37; (with_reducible refine (H1.out _).mono ?_); rintro e w' ⟨rfl, rfl⟩) | (go_at_call 37; (with_reducible refine (H2.out _).mono ?_); rintro e w' ⟨rfl, rfl⟩))
        refine (HV.out _ (HA.out.keep hL)).mono ?_
        rintro e w2 ⟨rfl, hb⟩
        have hL2 := chain (B := w.heap.size) (a := w) hL (Nat.le_refl _) hb
        go_wp2_with fail
        go_ret3
        exact ⟨rfl, hL2⟩
      · obtain ⟨r0, r1, r2⟩ := resV_no (xs := xs) (a := a) (b := b) (by
          have : frB a b = false := by
            cases hq : frB a b
            · rfl
            · exact absurd (frB_b.1 hq).2 hb2
          unfold okV; rw [hc, this]; rfl)
        rw [r0, r1, r2]
        have H2 := Lib.hid (fun w => l01In_no a (-b) b w hb2)
        obtain ⟨hb11, hb12⟩ := hb1
        clear hc ha r0 r1 r2 hb2
        go_enter Try.func16, Try.ntmps16
        go_wp2_with fail
        refine HC.out.mono ?_
        rintro e w1 ⟨rfl, hL⟩
        go_wp2_with (first | (go_at_call 37; (with_reducible refine (H1.out _).mono ?_); rintro e w' ⟨rfl, rfl⟩) | (go_at_call 37; (with_reducible refine (H2.out _).mono ?_); rintro e w' ⟨rfl, rfl⟩))
        go_ret3
        exact ⟨rfl, hL⟩
    · obtain ⟨r0, r1, r2⟩ := resV_no (xs := xs) (a := a) (b := b) (by
        have : frB a b = false := by
          cases hq : frB a b
          · rfl
          · exact absurd (frB_b.1 hq).1 hb1
        unfold okV; rw [hc, this]; rfl)
      rw [r0, r1, r2]
      have H1 := Lib.hid (fun w => l01In_no b 1 100 w hb1)
      clear hc ha r0 r1 r2 hb1
      go_enter Try.func16, Try.ntmps16
      go_wp2_with fail
      refine HC.out.mono ?_
      rintro e w1 ⟨rfl, hL⟩
      go_wp2_with (go_at_call 37; (with_reducible refine (H1.out _).mono ?_); rintro e w' ⟨rfl, rfl⟩)
      go_ret3
      exact ⟨rfl, hL⟩

end Go.Proofs.Ytibfenkaoaclfaa
