/- NumbersOf: the model's. -/
import Derived.Test.YtapcblibokkhcaaDoorNuM
import Derived.Test.YtapcblibokkhcaaDoorSyS
namespace Go.Proofs.YtapcblibokkhcaaDoor
open Go.RowKit
set_option linter.unusedVariables false

set_option maxRecDepth 100000 in
set_option maxHeartbeats 2000000 in
theorem l03Numbers_any (v : Int) (N : Nat) (w : World) (n1 : 1 ≤ N) (n5 : N ≤ 5) (h0 : 0 ≤ v) (hv : v < 9223372036854775808) :
    Calls Tryd.prog 35 #[.agg #[.int .i64 (N : Int), .int .i64 v]] w fun e w' => ∃ u, e = .returned u ∧ Owns w' w.heap.size u (numL v N) ∧ Below w.heap.size w w' := by
  obtain ⟨i0, hi, hz0, hz1, hz2⟩ := info_parts info64
  have k0 := (C2.here w (.int .i64 (N : Int)) (.int .i64 v) 26).alloc (.cells #[] 2)
  have oo : Owns ((w.alloc (.cells #[.int .i64 (N : Int), .int .i64 v] 26)).alloc (.cells #[] 2)) (w.heap.size + 1) (.slice (some ⟨w.heap.size + 1, 0, none⟩) 0 0) (onesTo (numS v (N + 1)) 0) := by
    have h := World.ownsRow_made (base := w.heap.size + 1) (e := 2) (size := 1) (w.alloc (.cells #[.int .i64 (N : Int), .int .i64 v] 26)) #[] 0 (by simp) (by simp) rfl
    rw [World.size_alloc] at h
    exact h
  have HL : Hid (numL v N = onesTo (numS v (N + 1)) (N + 1)) := rfl
  have HH := Lib.hid (fun (k : Nat) (hk : k < N + 1) (h : numD v k = 1) => numL_hit v hk h)
  have HMi := Lib.hid (fun (k : Nat) (hk : k < N + 1) (h : numD v k ≠ 1) => numL_miss v hk h)
  obtain ⟨P, hP⟩ : ∃ P, N + 1 = P := ⟨_, rfl⟩
  rw [hP] at HL HH HMi oo
  have HP := Lib.hid hP
  have hP6 : P ≤ 6 := by omega
  clear hP
  generalize numS v P = S at *
  go_enter Tryd.func35, Tryd.ntmps35
  go_wp2_with fail
  go_loopw [3, 4] (fun u c wr => ∃ k : Nat, k ≤ P ∧ c = .int .i64 (k : Int) ∧ Below w.heap.size w wr ∧ C2 wr w.heap.size (.int .i64 (N : Int)) (.int .i64 v) ∧ Owns wr (w.heap.size + 1) u (onesTo S k)) (fun _ c _ => P - (intOf c).toNat)
  case atStart => exact ⟨0, Nat.zero_le _, rfl, by go_grown, k0, oo⟩
  case round =>
    clear k0 oo
    obtain ⟨k, hk, rfl, hL, k0, oo⟩ := hrel
    by_cases hlt : k < P
    · have hle : (k : Int) ≤ (N : Int) := by have := HP.out; omega
      obtain ⟨W, hW⟩ : ∃ W, 2 ^ k = W := ⟨_, rfl⟩
      have hWb : 1 ≤ W ∧ W ≤ 32 := by
        rw [← hW]
        have : 2 ^ k ≤ 2 ^ 5 := Nat.pow_le_pow_right (by decide) (by omega)
        have := Nat.two_pow_pos k
        omega
      have hk5 : k ≤ 5 := by omega
      have hb0 : 0 ≤ (W : Int) - 1 ∧ (W : Int) - 1 ≤ 62 := by omega
      have hkz : 0 ≤ (k : Int) ∧ (k : Int) ≤ 63 := by omega
      have hdg := numD_dig v hW hWb.1
      have HV := Lib.hid (fun w => l01At_any (N : Int) v ((W : Int) - 1) w h0 hv hb0.1 hb0.2)
      have Hl := Lib.hid (onesTo_len S k)
      obtain ⟨W1, W2⟩ := hWb
      have hw : wrap64 (2 ^ k) = (W : Int) := by rw [two_wrap5 hk5, hW]
      have hs1 : wrap64 ((W : Int) - 1) = (W : Int) - 1 := IntWalk.wrap64_in _ (by clear hw; omega)
      clear hb0 hkz
      by_cases hb : numD v k = 1
      · have Hn := Lib.hid (HH.out k hlt hb)
        have hd1 : (digZ v ((W : Int) - 1) == 1) = true := by rw [hdg, hb]; rfl
        clear hW hb hdg
        generalize digZ v ((W : Int) - 1) = D at *
        go_wp2_with (first | (go_at_call 43; (with_reducible refine (HV.out _).mono ?_); rintro e w1 ⟨rfl, hb⟩; have hL := chain (B := w.heap.size) (a := w) hL (Nat.le_refl _) hb; have hz0_ := k0.2.2.2.2; replace k0 := keepAt hb k0; replace oo := ownsKeepAt hb oo; have hz := hb.size; clear hb hw hs1) | (at_builtin; refine wpList_append_own _ rfl _ _ 31 rfl (w.heap.size + 1) 2 i0 (.int .i64 0) 1 8 Tryd.underlying31 hi hz0 hz1 hz2 rfl (by decide) _ _ _ rfl (World.ownsRow.alloc oo _) ⟨w1.heap.size, 0, none⟩ 1 1 [.int .i64 (k : Int)] rfl rfl (cell_one_new _ _ _) (by simp [Value.oneCell']) (by have := Hl.out; unfold maxLen; omega) (by have := Hl.out; omega) (by simp; omega) ?_; intro v' w2 hown' hgrow hnil))
        have hfrom := oo.rowsFrom (B := w.heap.size) (by omega)
        have hsep := oo.notBlock (b := w.heap.size) (by omega)
        exact ⟨⟨k + 1, by omega, by go_num, (hL.alloc (by omega) _).grown hgrow (by simp; omega) hfrom, (k0.alloc _).grown hgrow hsep, by rw [Hn.out]; exact Owns.snoc hown'⟩, by simp [intOf]; omega⟩
      · have Hn := Lib.hid (HMi.out k hlt hb)
        have hd1 : (digZ v ((W : Int) - 1) == 1) = false := by rw [hdg, beq_eq_false_iff_ne]; omega
        clear hW hb hdg
        generalize digZ v ((W : Int) - 1) = D at *
        go_wp2_with (go_at_call 43; (with_reducible refine (HV.out _).mono ?_); rintro e w1 ⟨rfl, hb⟩; have hL := chain (B := w.heap.size) (a := w) hL (Nat.le_refl _) hb; replace k0 := keepAt hb k0; replace oo := ownsKeepAt hb oo; clear hb hw hs1)
        exact ⟨⟨k + 1, by omega, by go_num, hL, k0, by rw [Hn.out]; exact oo⟩, by simp [intOf]; omega⟩
    · have hle : ¬ (k : Int) ≤ (N : Int) := by have := HP.out; omega
      have e : k = P := by omega
      rw [e] at oo
      clear e
      go_wp2_with fail
      go_ret
      exact ⟨_, rfl, by rw [HL.out]; exact oo.mono (by omega), hL⟩

set_option maxRecDepth 100000 in
set_option maxHeartbeats 1000000 in
theorem sNumbersOf_any (n v : Int) (w : World) :
    Calls Tryd.prog 13 #[.agg #[.int .i64 n, .int .i64 v]] w fun e w' => ∃ u, e = .returned (.tuple #[u, .int .i64 (resNumbersOf_1 n v)]) ∧ Owns w' w.heap.size u (resNumbersOf_0 n v) ∧ Below w.heap.size w w' := by
  have k0 : C2 (w.alloc (.cells #[.int .i64 n, .int .i64 v] 26)) (w.heap.size) (.int .i64 n) (.int .i64 v) := by simpa using C2.here w (.int .i64 n) (.int .i64 v) 26
  by_cases ht : isTab n v = true
  · have HT := Lib.hid ht
    obtain ⟨n1, n5, h0, hv⟩ := tab_bd ht
    obtain ⟨N, hN⟩ := Int.eq_ofNat_of_zero_le (show 0 ≤ n by omega)
    cases hb : symB v N
    · have H0 : Hid (resNumbersOf_0 n v = []) := by unfold Hid resNumbersOf_0; rw [hN, Int.toNat_natCast, hb]; simp
      have H1 : Hid (resNumbersOf_1 n v = 5) := by unfold Hid resNumbersOf_1; rw [ht, hN, Int.toNat_natCast, hb]; rfl
      have HS : Hid (∀ w, Calls Tryd.prog 31 #[.agg #[.int .i64 n, .int .i64 v]] w fun e w' => e = .returned (.bool false) ∧ Below w.heap.size w w') := fun w => by rw [hN]; exact l03Symmetric_any v N w (by omega) (by omega) h0 hv hb
      clear ht hN hb
      go_enter Tryd.func13, Tryd.ntmps13
      go_wp2_with (first | (go_at_call 25; (with_reducible refine (l01Is_b _ _ _ HT.out).mono ?_); rintro e w' ⟨rfl, hb⟩; have hL := chain (B := w.heap.size) (a := w) (by go_grown) (Nat.le_refl _) hb; (first | replace k0 := keepAt hb k0 | replace k0 := keepAt hb (C2.alloc k0 _)); clear hb) | (go_at_call 31; (with_reducible refine (HS.out _).mono ?_); rintro e w3 ⟨rfl, hb⟩; have hL := chain (B := w.heap.size) (a := w) hL (Nat.le_refl _) hb; clear hb))
      go_ret2
      exact ⟨_, by rw [H1.out]; rfl, by rw [H0.out]; exact World.ownsRow_nil _ _ _ _, hL⟩
    · have H0 : Hid (resNumbersOf_0 n v = numL v N) := by unfold Hid resNumbersOf_0; rw [ht, hN, Int.toNat_natCast, hb]; rfl
      have H1 : Hid (resNumbersOf_1 n v = 0) := by unfold Hid resNumbersOf_1; rw [ht, hN, Int.toNat_natCast, hb]; rfl
      have HS : Hid (∀ w, Calls Tryd.prog 31 #[.agg #[.int .i64 n, .int .i64 v]] w fun e w' => e = .returned (.bool true) ∧ Below w.heap.size w w') := fun w => by rw [hN]; exact l03Symmetric_any v N w (by omega) (by omega) h0 hv hb
      have HN : Hid (∀ w, Calls Tryd.prog 35 #[.agg #[.int .i64 n, .int .i64 v]] w fun e w' => ∃ u, e = .returned u ∧ Owns w' w.heap.size u (numL v N) ∧ Below w.heap.size w w') := fun w => by rw [hN]; exact l03Numbers_any v N w (by omega) (by omega) h0 hv
      clear ht hN hb
      go_enter Tryd.func13, Tryd.ntmps13
      go_wp2_with (first | (go_at_call 25; (with_reducible refine (l01Is_b _ _ _ HT.out).mono ?_); rintro e w' ⟨rfl, hb⟩; have hL := chain (B := w.heap.size) (a := w) (by go_grown) (Nat.le_refl _) hb; (first | replace k0 := keepAt hb k0 | replace k0 := keepAt hb (C2.alloc k0 _)); clear hb) | (go_at_call 31; (with_reducible refine (HS.out _).mono ?_); rintro e w3 ⟨rfl, hb⟩; have hL := chain (B := w.heap.size) (a := w) hL (Nat.le_refl _) hb; have k0 := keepAt hb k0; clear hb) | (go_at_call 35; (with_reducible refine (HN.out _).mono ?_); rintro e w4 ⟨u, rfl, ou, hb⟩; have hz := hL.size; have hL := chain (B := w.heap.size) (a := w) hL (Nat.le_refl _) hb; clear hb))
      go_ret2
      exact ⟨_, by rw [H1.out]; rfl, by rw [H0.out]; exact ou.mono hz, hL⟩
  · have ht : isTab n v = false := by simpa using ht
    have HT := Lib.hid ht
    have HC : Hid (resNumbersOf_1 n v = 1) := by unfold Hid resNumbersOf_1; rw [ht]; rfl
    have HR : Hid (resNumbersOf_0 n v = []) := by unfold Hid resNumbersOf_0; rw [ht]; rfl
    clear ht
    go_enter Tryd.func13, Tryd.ntmps13
    go_wp2_with ((go_at_call 25; (with_reducible refine (l01Is_b _ _ _ HT.out).mono ?_); rintro e w' ⟨rfl, hb⟩; have hL := chain (B := w.heap.size) (a := w) (by go_grown) (Nat.le_refl _) hb; (first | replace k0 := keepAt hb k0 | replace k0 := keepAt hb (C2.alloc k0 _)); clear hb))
    go_ret2
    exact ⟨_, by rw [HC.out]; rfl, by rw [HR.out]; exact World.ownsRow_nil _ _ _ _, hL⟩

end Go.Proofs.YtapcblibokkhcaaDoor
