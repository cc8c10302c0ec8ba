/- Worlds that have grown: the model's l08Implied. -/
import Derived.Test.YtohmhiodmaahfaaDoorPatS
import Derived.Shelf.SlSortCmp.QuietGrown
namespace Go.Proofs.YtohmhiodmaahfaaDoor
open Go.RowKit
set_option linter.unusedVariables false

/-- nothing but new blocks and draws -/
def Gr (w w' : World) : Prop := ∃ (q : Nat) (os : Array Obj), w' = Go.Sort.grow (w.drewN q) os
theorem Gr.refl (w : World) : Gr w w := ⟨0, #[], by rw [Go.Sort.grow_empty]; rfl⟩
theorem Gr.one (w : World) (o : Obj) : Gr w (w.alloc o) := ⟨0, _, Go.Sort.alloc_eq_grow w o⟩
theorem Gr.trans {a b c : World} (h : Gr a b) (k : Gr b c) : Gr a c := by
  obtain ⟨n, os, rfl⟩ := h
  obtain ⟨q, os', rfl⟩ := k
  refine ⟨n + q, os ++ os', ?_⟩
  show Go.Sort.grow (Go.Sort.grow ((a.drewN n).drewN q) os) os' = _
  rw [Go.Sort.grow_grow, World.drewN_drewN]
theorem Gr.below {w w' : World} (h : Gr w w') : Below w.heap.size w w' := by
  obtain ⟨n, os, rfl⟩ := h
  exact ⟨rfl, rfl, rfl, by simp [Go.Sort.grow], fun k hk => by
    show (w.heap ++ os)[k]? = w.heap[k]?
    rw [Array.getElem?_append_left hk]⟩

set_option maxRecDepth 100000 in
theorem l01At_gr (n v k : Int) (w : World) (h0 : 0 ≤ v) (hx : v < 9223372036854775808) (k0 : 0 ≤ k) (k6 : k ≤ 62) :
    Calls Tryd.prog 69 #[.agg #[.int .i64 n, .int .i64 v], .int .i64 k] w fun e w' => e = .returned (.int .i64 (digZ v k)) ∧ Gr w w' := by
  have hd := digit_walk v k h0 hx k0
  have Hd := Lib.hid hd
  have HE := Lib.hid (Gr.one w (.cells #[.int .i64 n, .int .i64 v] 29))
  go_enter Tryd.func69, Tryd.ntmps69
  go_wp2
  go_ret
  exact ⟨by rw [← Hd.out]; rfl, HE.out⟩

set_option maxRecDepth 100000 in
set_option maxHeartbeats 4000000 in
theorem l08Implied_gr (n v : Int) (s : ByteArray) (hs : s.size ≤ 5) (hp : allIn s [45, 48, 49] = true) (w : World) (n1 : 1 ≤ n) (n5 : n ≤ 5) (v0 : 0 ≤ v) (v1 : v < 9223372036854775808) :
    Calls Tryd.prog 37 #[.agg #[.int .i64 n, .int .i64 v], .string s] w fun e w' => e = .returned (.bool (impF v (sgn s) (2 ^ n.toNat))) ∧ Gr w w' := by
  obtain ⟨N, rfl⟩ : ∃ N : Nat, n = (N : Int) := ⟨n.toNat, by omega⟩
  simp only [Int.toNat_natCast]
  obtain ⟨M, hM⟩ : ∃ M, 2 ^ N = M := ⟨_, rfl⟩
  have hM32 : M ≤ 32 := by rw [← hM]; exact Nat.pow_le_pow_right (n := 2) (by decide) (show N ≤ 5 by omega)
  have HPC : Hid (∀ w, Calls Tryd.prog 43 #[.int .i64 (N : Int)] w fun e w' => e = .returned (.int .i64 (M : Int)) ∧ w = w') := fun w => by
    have := l01Rows_any (N : Int) w n1 n5; unfold rcZ at this; rw [Int.toNat_natCast, hM] at this; exact this
  rw [hM]
  obtain ⟨j, hj, hno, hyes⟩ := firstB (fun r => covF (sgn s) (r : Int) && (digZ v (r : Int) == 0)) M
  have HNO := Lib.hid hno
  have HYES := Lib.hid hyes
  have HR : Hid (j < M → impF v (sgn s) M = false) := fun h => by
    have h2 := hyes h
    simp only [Bool.and_eq_true, beq_iff_eq] at h2
    cases hc : impF v (sgn s) M
    · rfl
    · have := impF_iff.1 hc j h h2.1
      omega
  have HR2 : Hid (j = M → impF v (sgn s) M = true) := fun h => impF_iff.2 fun r hr hc => by
    have h2 := hno r (by omega)
    rw [hc] at h2
    simp only [Bool.true_and, beq_eq_false_iff_ne] at h2
    have := digZ_bd v (r : Int)
    omega
  have HC := Lib.hid (fun (k : Nat) (hk : k < 32) (w : World) => l08Covers_any s hs hp (k : Int) w (by omega) (by omega))
  have HV := Lib.hid (fun (k : Nat) (hk : k < 32) (w : World) => l01At_gr (N : Int) v (k : Int) w v0 v1 (by omega) (by omega))
  have k0 := C2.here w (.int .i64 (N : Int)) (.int .i64 v) 29
  clear hno hyes hM n1 hp hs v0 v1
  go_enter Tryd.func37, Tryd.ntmps37
  go_wp2_with fail
  go_loopw [5] (fun c wr => ∃ k : Nat, k ≤ j ∧ c = .int .i64 (k : Int) ∧ Gr w wr ∧ C2 wr w.heap.size (.int .i64 (N : Int)) (.int .i64 v)) (fun c _ => M - (intOf c).toNat)
  case atStart => exact ⟨0, Nat.zero_le _, rfl, Gr.one w _, k0⟩
  case round =>
    clear k0
    obtain ⟨k, hk, rfl, hL, k0⟩ := hrel
    by_cases hlt : k < M
    · have hk1 : (k : Int) < (M : Int) := by omega
      have hk0 : (0 : Int) ≤ (k : Int) := by omega
      have HCk := Lib.hid (HC.out k (by omega))
      have HVk := Lib.hid (HV.out k (by omega))
      by_cases hkj : k < j
      · have h := HNO.out k hkj
        cases hc : covF (sgn s) (k : Int)
        · rw [hc] at HCk
          clear h hc
          go_wp2_with (first | (go_at_call 43; (with_reducible refine (HPC.out _).mono ?_); rintro e w' ⟨rfl, rfl⟩) | (go_at_call 44; (with_reducible refine (HCk.out _).mono ?_); rintro e w' ⟨rfl, rfl⟩))
          exact ⟨⟨k + 1, by omega, by go_num, hL, k0⟩, by simp [intOf]; omega⟩
        · rw [hc] at HCk
          simp only [hc, Bool.true_and] at h
          clear hc
          generalize digZ v (k : Int) = d at *
          go_wp2_with (first | (go_at_call 43; (with_reducible refine (HPC.out _).mono ?_); rintro e w' ⟨rfl, rfl⟩) | (go_at_call 44; (with_reducible refine (HCk.out _).mono ?_); rintro e w' ⟨rfl, rfl⟩) | (go_at_call 69; (with_reducible refine (HVk.out _).mono ?_); rintro e w2 ⟨rfl, hb⟩; replace hL := hL.trans hb; replace k0 := keepAt hb.below k0; clear hb))
          exact ⟨⟨k + 1, by omega, by go_num, hL, k0⟩, by simp [intOf]; omega⟩
      · have e : k = j := by omega
        subst e
        have h := HYES.out hlt
        have HF := Lib.hid (HR.out hlt)
        simp only [Bool.and_eq_true] at h
        obtain ⟨hc, hd⟩ := h
        rw [hc] at HCk
        clear hc
        generalize digZ v (k : Int) = d at *
        go_wp2_with (first | (go_at_call 43; (with_reducible refine (HPC.out _).mono ?_); rintro e w' ⟨rfl, rfl⟩) | (go_at_call 44; (with_reducible refine (HCk.out _).mono ?_); rintro e w' ⟨rfl, rfl⟩) | (go_at_call 69; (with_reducible refine (HVk.out _).mono ?_); rintro e w2 ⟨rfl, hb⟩; replace hL := hL.trans hb; replace k0 := keepAt hb.below k0; clear hb))
        go_ret
        exact ⟨by rw [HF.out]; rfl, hL⟩
    · have e : k = M := by omega
      have HF := Lib.hid (HR2.out (by omega))
      have hkn : ¬ (k : Int) < (M : Int) := by omega
      clear e
      go_wp2_with ((go_at_call 43; (with_reducible refine (HPC.out _).mono ?_); rintro e w' ⟨rfl, rfl⟩))
      go_ret
      exact ⟨by rw [HF.out]; rfl, hL⟩

end Go.Proofs.YtohmhiodmaahfaaDoor
