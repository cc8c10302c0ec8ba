/- Patterns: the model's l08Series, l08Covers, l08Implied. -/
import Derived.Test.YtohmhiodmaahfaaDoorPatM
import Derived.Test.YtohmhiodmaahfaaDoorAt
import Derived.Test.YtohmhiodmaahfaaDoorCo0
namespace Go.Proofs.YtohmhiodmaahfaaDoor
open Go.RowKit
set_option linter.unusedVariables false

/-- is a byte a sign of a pattern? -/
def sigB (c : Int) : Bool := decide (c = 48 ∨ c = 49 ∨ c = 45)

set_option maxRecDepth 100000 in
set_option maxHeartbeats 4000000 in
theorem l08Series_any (s : ByteArray) (hs : s.size ≤ 1048576) (n : Int) (w : World) :
    Calls Tryd.prog 36 #[.string s, .int .i64 n] w fun e w' => e = .returned (.bool (isPat s n)) ∧ w = w' := by
  have hs63 : s.size ≤ 9223372036854775807 := by omega
  obtain ⟨j, hj, hno, hyes⟩ := firstB (fun i => !sigB (byteAt s i)) s.size
  have HNO := Lib.hid hno
  have HR : Hid (j < s.size → isPat s n = false) := fun h => by
    have h2 := hyes h
    unfold isPat
    have : allIn s [45, 48, 49] = false := by
      cases hc : allIn s [45, 48, 49]
      · rfl
      · have := sigs_iff.1 hc j h
        simp only [sigB] at h2
        rw [decide_eq_true this] at h2; cases h2
    rw [this]; simp
  have HR2 : Hid (j = s.size → isPat s n = decide ((s.size : Int) = n)) := fun h => by
    unfold isPat
    have : allIn s [45, 48, 49] = true := sigs_iff.2 fun i hi => by
      have := hno i (by omega)
      simp only [sigB, Bool.not_eq_false', decide_eq_true_iff] at this
      exact this
    rw [this]; simp
  have HYES := Lib.hid hyes
  clear hno hyes
  go_enter Tryd.func36, Tryd.ntmps36
  go_wp2_with fail
  go_loopw [5] (fun c wr => ∃ k : Nat, k ≤ j ∧ c = .int .i64 (k : Int) ∧ w = wr) (fun c _ => s.size - (intOf c).toNat)
  case atStart => exact ⟨0, Nat.zero_le _, rfl, rfl⟩
  case round =>
    obtain ⟨k, hk, rfl, rfl⟩ := hrel
    by_cases hlt : k < s.size
    · have hk1 : (k : Int) < (s.size : Int) := by omega
      have hk0 : (0 : Int) ≤ (k : Int) := by omega
      have hb := byteAt_eq s k hlt
      by_cases hkj : k < j
      · have h := HNO.out k hkj
        simp only [sigB, Bool.not_eq_false', decide_eq_true_iff] at h
        rw [hb] at h
        rcases h with h | h | h
        · have e1 : ((s[k].toNat : Int) != 48) = false := by rw [h]; rfl
          clear h hb
          go_wp2_with fail
          exact ⟨⟨k + 1, by omega, by go_num, trivial⟩, by simp [intOf]; omega⟩
        · have e1 : ((s[k].toNat : Int) != 48) = true := by rw [h]; rfl
          have e2 : ((s[k].toNat : Int) != 49) = false := by rw [h]; rfl
          clear h hb
          go_wp2_with fail
          exact ⟨⟨k + 1, by omega, by go_num, trivial⟩, by simp [intOf]; omega⟩
        · have e1 : ((s[k].toNat : Int) != 48) = true := by rw [h]; rfl
          have e2 : ((s[k].toNat : Int) != 49) = true := by rw [h]; rfl
          have e3 : ((s[k].toNat : Int) != 45) = false := by rw [h]; rfl
          clear h hb
          go_wp2_with fail
          exact ⟨⟨k + 1, by omega, by go_num, trivial⟩, by simp [intOf]; omega⟩
      · have e : k = j := by omega
        subst e
        have h := HYES.out hlt
        have HF := Lib.hid (HR.out hlt)
        simp only [sigB, Bool.not_eq_true', decide_eq_false_iff_not] at h
        rw [hb] at h
        have e1 : ((s[k].toNat : Int) != 48) = true := by simp; omega
        have e2 : ((s[k].toNat : Int) != 49) = true := by simp; omega
        have e3 : ((s[k].toNat : Int) != 45) = true := by simp; omega
        clear h hb
        go_wp2_with fail
        go_ret
        exact ⟨by rw [HF.out]; rfl, rfl⟩
    · have e : k = s.size := by omega
      have HF := Lib.hid (HR2.out (by omega))
      have hkn : ¬ (k : Int) < (s.size : Int) := by omega
      by_cases h : (s.size : Int) = n
      · have hq : ((s.size : Int) == n) = true := by simpa using h
        have HF2 : Hid (isPat s n = true) := HF.out.trans (decide_eq_true h)
        clear h e
        go_wp2_with fail
        go_ret
        exact ⟨by rw [HF2.out]; rfl, rfl⟩
      · have hq : ((s.size : Int) == n) = false := by simpa using h
        have HF2 : Hid (isPat s n = false) := HF.out.trans (decide_eq_false h)
        clear h e
        go_wp2_with fail
        go_ret
        exact ⟨by rw [HF2.out]; rfl, rfl⟩

set_option maxRecDepth 100000 in
set_option maxHeartbeats 4000000 in
theorem l08Covers_any (s : ByteArray) (hs : s.size ≤ 5) (hp : allIn s [45, 48, 49] = true) (row : Int) (w : World) (r0 : 0 ≤ row) (r1 : row ≤ 31) :
    Calls Tryd.prog 44 #[.string s, .int .i64 row] w fun e w' => e = .returned (.bool (covF (sgn s) row)) ∧ w = w' := by
  have hs63 : s.size ≤ 9223372036854775807 := by omega
  have HP := Lib.hid (sigs_iff.1 hp)
  obtain ⟨j, hj, hno, hyes⟩ := firstB (fun i => !okS (sgn s) row i) s.size
  have HNO := Lib.hid hno
  have HYES := Lib.hid hyes
  have HR : Hid (j < s.size → covF (sgn s) row = false) := fun h => covF_no (j := j) (by omega) (by have := hyes h; simpa using this)
  have HR2 : Hid (j = s.size → covF (sgn s) row = true) := fun h => covF_iff.2 fun i hi => by
    by_cases hlt : i < s.size
    · have := hno i (by omega); simpa using this
    · unfold okS sgn
      rw [if_neg hlt]; exact decide_eq_true (.inl rfl)
  have HO : Hid (∀ i, i < s.size → okS (sgn s) row i = decide (byteAt s i = 45 ∨ byteAt s i - 48 = digZ row (i : Int))) := fun i hi => by
    unfold okS sgn; rw [if_pos hi]
  clear hno hyes hp
  go_enter Tryd.func44, Tryd.ntmps44
  go_wp2_with fail
  go_loopw [5] (fun c wr => ∃ k : Nat, k ≤ j ∧ c = .int .i64 (k : Int) ∧ w = wr) (fun c _ => s.size - (intOf c).toNat)
  case atStart => exact ⟨0, Nat.zero_le _, rfl, rfl⟩
  case round =>
    obtain ⟨k, hk, rfl, rfl⟩ := hrel
    by_cases hlt : k < s.size
    · have hk1 : (k : Int) < (s.size : Int) := by omega
      have hk0 : (0 : Int) ≤ (k : Int) := by omega
      have hb := byteAt_eq s k hlt
      have hd := digit_walk row (k : Int) r0 (by omega) hk0
      have hsg := HP.out k hlt
      have hdb := digZ_bd row (k : Int)
      rw [hb] at hsg
      have hok := HO.out k hlt
      rw [hb] at hok
      rw [Int.toNat_natCast] at hd
      generalize digZ row (k : Int) = d at *
      by_cases hkj : k < j
      · have h := HNO.out k hkj
        simp only [hok, Bool.not_eq_false', decide_eq_true_iff] at h
        clear hok hb
        rcases hsg with e | e | e
        · have e1 : ((s[k].toNat : Int) != 45) = true := by rw [e]; rfl
          have e2 : (s[k].toNat : Int) - 48 = 0 := by omega
          have e3 : d = 0 := by omega
          have e4 : IntKind.u8.wrap ((s[k].toNat : Int) - 48) = 0 := by rw [e2]; rfl
          subst e3
          clear h e
          go_wp2_with fail
          exact ⟨⟨k + 1, by omega, by go_num, trivial⟩, by simp [intOf]; omega⟩
        · have e1 : ((s[k].toNat : Int) != 45) = true := by rw [e]; rfl
          have e2 : (s[k].toNat : Int) - 48 = 1 := by omega
          have e3 : d = 1 := by omega
          have e4 : IntKind.u8.wrap ((s[k].toNat : Int) - 48) = 1 := by rw [e2]; rfl
          subst e3
          clear h e
          go_wp2_with fail
          exact ⟨⟨k + 1, by omega, by go_num, trivial⟩, by simp [intOf]; omega⟩
        · have e1 : ((s[k].toNat : Int) != 45) = false := by rw [e]; rfl
          clear h e
          go_wp2_with fail
          exact ⟨⟨k + 1, by omega, by go_num, trivial⟩, by simp [intOf]; omega⟩
      · have e : k = j := by omega
        subst e
        have h := HYES.out hlt
        have HF := Lib.hid (HR.out hlt)
        simp only [hok, Bool.not_eq_true', decide_eq_false_iff_not] at h
        clear hok hb
        rcases hsg with e | e | e
        · have e1 : ((s[k].toNat : Int) != 45) = true := by rw [e]; rfl
          have e2 : (s[k].toNat : Int) - 48 = 0 := by omega
          have e3 : d = 1 := by omega
          have e4 : IntKind.u8.wrap ((s[k].toNat : Int) - 48) = 0 := by rw [e2]; rfl
          subst e3
          clear h e
          go_wp2_with fail
          go_ret
          exact ⟨by rw [HF.out]; rfl, rfl⟩
        · have e1 : ((s[k].toNat : Int) != 45) = true := by rw [e]; rfl
          have e2 : (s[k].toNat : Int) - 48 = 1 := by omega
          have e3 : d = 0 := by omega
          have e4 : IntKind.u8.wrap ((s[k].toNat : Int) - 48) = 1 := by rw [e2]; rfl
          subst e3
          clear h e
          go_wp2_with fail
          go_ret
          exact ⟨by rw [HF.out]; rfl, rfl⟩
        · exact absurd (Or.inl e) h
    · have e : k = s.size := by omega
      have HF := Lib.hid (HR2.out (by omega))
      have hkn : ¬ (k : Int) < (s.size : Int) := by omega
      clear e
      go_wp2_with fail
      go_ret
      exact ⟨by rw [HF.out]; rfl, rfl⟩

set_option maxRecDepth 100000 in
set_option maxHeartbeats 4000000 in
theorem l08Implied_any (n v : Int) (s : ByteArray) (hs : s.size ≤ 5) (hp : allIn s [45, 48, 49] = true) (w : World) (n1 : 1 ≤ n) (n5 : n ≤ 5) (v0 : 0 ≤ v) (v1 : v < 9223372036854775808) :
    Calls Tryd.prog 37 #[.agg #[.int .i64 n, .int .i64 v], .string s] w fun e w' => e = .returned (.bool (impF v (sgn s) (2 ^ n.toNat))) ∧ Below w.heap.size w w' := by
  obtain ⟨N, rfl⟩ : ∃ N : Nat, n = (N : Int) := ⟨n.toNat, by omega⟩
  simp only [Int.toNat_natCast]
  obtain ⟨M, hM⟩ : ∃ M, 2 ^ N = M := ⟨_, rfl⟩
  have hM32 : M ≤ 32 := by rw [← hM]; exact Nat.pow_le_pow_right (n := 2) (by decide) (show N ≤ 5 by omega)
  have HPC : Hid (∀ w, Calls Tryd.prog 43 #[.int .i64 (N : Int)] w fun e w' => e = .returned (.int .i64 (M : Int)) ∧ w = w') := fun w => by
    have := l01Rows_any (N : Int) w n1 n5; unfold rcZ at this; rw [Int.toNat_natCast, hM] at this; exact this
  rw [hM]
  obtain ⟨j, hj, hno, hyes⟩ := firstB (fun r => covF (sgn s) (r : Int) && (digZ v (r : Int) == 0)) M
  have HNO := Lib.hid hno
  have HYES := Lib.hid hyes
  have HR : Hid (j < M → impF v (sgn s) M = false) := fun h => by
    have h2 := hyes h
    simp only [Bool.and_eq_true, beq_iff_eq] at h2
    cases hc : impF v (sgn s) M
    · rfl
    · have := impF_iff.1 hc j h h2.1
      omega
  have HR2 : Hid (j = M → impF v (sgn s) M = true) := fun h => impF_iff.2 fun r hr hc => by
    have h2 := hno r (by omega)
    rw [hc] at h2
    simp only [Bool.true_and, beq_eq_false_iff_ne] at h2
    have := digZ_bd v (r : Int)
    omega
  have HC := Lib.hid (fun (k : Nat) (hk : k < 32) (w : World) => l08Covers_any s hs hp (k : Int) w (by omega) (by omega))
  have HV := Lib.hid (fun (k : Nat) (hk : k < 32) (w : World) => l01At_any (N : Int) v (k : Int) w v0 v1 (by omega) (by omega))
  have k0 := C2.here w (.int .i64 (N : Int)) (.int .i64 v) 29
  clear hno hyes hM n1 hp hs v0 v1
  go_enter Tryd.func37, Tryd.ntmps37
  go_wp2_with fail
  go_loopw [5] (fun c wr => ∃ k : Nat, k ≤ j ∧ c = .int .i64 (k : Int) ∧ Below w.heap.size w wr ∧ C2 wr w.heap.size (.int .i64 (N : Int)) (.int .i64 v)) (fun c _ => M - (intOf c).toNat)
  case atStart => exact ⟨0, Nat.zero_le _, rfl, by go_grown, k0⟩
  case round =>
    clear k0
    obtain ⟨k, hk, rfl, hL, k0⟩ := hrel
    by_cases hlt : k < M
    · have hk1 : (k : Int) < (M : Int) := by omega
      have hk0 : (0 : Int) ≤ (k : Int) := by omega
      have HCk := Lib.hid (HC.out k (by omega))
      have HVk := Lib.hid (HV.out k (by omega))
      by_cases hkj : k < j
      · have h := HNO.out k hkj
        cases hc : covF (sgn s) (k : Int)
        · rw [hc] at HCk
          clear h hc
          go_wp2_with (first | (go_at_call 43; (with_reducible refine (HPC.out _).mono ?_); rintro e w' ⟨rfl, rfl⟩) | (go_at_call 44; (with_reducible refine (HCk.out _).mono ?_); rintro e w' ⟨rfl, rfl⟩))
          exact ⟨⟨k + 1, by omega, by go_num, hL, k0⟩, by simp [intOf]; omega⟩
        · rw [hc] at HCk
          simp only [hc, Bool.true_and] at h
          clear hc
          generalize digZ v (k : Int) = d at *
          go_wp2_with (first | (go_at_call 43; (with_reducible refine (HPC.out _).mono ?_); rintro e w' ⟨rfl, rfl⟩) | (go_at_call 44; (with_reducible refine (HCk.out _).mono ?_); rintro e w' ⟨rfl, rfl⟩) | (go_at_call 69; (with_reducible refine (HVk.out _).mono ?_); rintro e w2 ⟨rfl, hb⟩; replace hL := chain (B := w.heap.size) (a := w) hL (Nat.le_refl _) hb; replace k0 := keepAt hb k0; clear hb))
          exact ⟨⟨k + 1, by omega, by go_num, hL, k0⟩, by simp [intOf]; omega⟩
      · have e : k = j := by omega
        subst e
        have h := HYES.out hlt
        have HF := Lib.hid (HR.out hlt)
        simp only [Bool.and_eq_true] at h
        obtain ⟨hc, hd⟩ := h
        rw [hc] at HCk
        clear hc
        generalize digZ v (k : Int) = d at *
        go_wp2_with (first | (go_at_call 43; (with_reducible refine (HPC.out _).mono ?_); rintro e w' ⟨rfl, rfl⟩) | (go_at_call 44; (with_reducible refine (HCk.out _).mono ?_); rintro e w' ⟨rfl, rfl⟩) | (go_at_call 69; (with_reducible refine (HVk.out _).mono ?_); rintro e w2 ⟨rfl, hb⟩; replace hL := chain (B := w.heap.size) (a := w) hL (Nat.le_refl _) hb; replace k0 := keepAt hb k0; clear hb))
        go_ret
        exact ⟨by rw [HF.out]; rfl, hL⟩
    · have e : k = M := by omega
      have HF := Lib.hid (HR2.out (by omega))
      have hkn : ¬ (k : Int) < (M : Int) := by omega
      clear e
      go_wp2_with ((go_at_call 43; (with_reducible refine (HPC.out _).mono ?_); rintro e w' ⟨rfl, rfl⟩))
      go_ret
      exact ⟨by rw [HF.out]; rfl, hL⟩

end Go.Proofs.YtohmhiodmaahfaaDoor
