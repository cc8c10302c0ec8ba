/- IsMonotone: the program's and the model's. -/
import Derived.Test.YtgcdpbikeimelabISlo
namespace Go.Proofs.Ytgcdpbikeimelab
open Go.RowKit
set_option linter.unusedVariables false

/-- a table rises with an input, or does not change with it -/
def okS (n v : Int) (i : Nat) : Prop := 0 ≤ slopeZ n v (i : Int) ∧ slopeZ n v (i : Int) ≤ 1
instance (n v : Int) (i : Nat) : Decidable (okS n v i) := by unfold okS; infer_instance
def monoP (n v : Int) : Prop := ∀ i, i < n.toNat → okS n v i
instance (n v : Int) : Decidable (monoP n v) := by unfold monoP; infer_instance

set_option maxRecDepth 100000 in
set_option maxHeartbeats 1000000 in
theorem l01Monotone_any (n v : Int) (w : World) (n1 : 1 ≤ n) (n5 : n ≤ 5) (h0 : 0 ≤ v) (hv : v < 9223372036854775808) :
    Calls Try.prog 45 #[.agg #[.int .i64 n, .int .i64 v]] w fun e w' => e = .returned (.bool (decide (monoP n v))) ∧ Below w.heap.size w w' := by
  have k0 := C2.here w (.int .i64 n) (.int .i64 v) 27
  go_enter Try.func45, Try.ntmps45
  go_wp2_with fail
  go_loopw [3] (fun c wr => ∃ k : Nat, (k : Int) ≤ n ∧ c = .int .i64 (k : Int) ∧ Below w.heap.size w wr ∧ C2 wr w.heap.size (.int .i64 n) (.int .i64 v) ∧ Hid (∀ i, i < k → okS n v i))
    (fun c _ => (n - intOf c).toNat)
  case atStart => exact ⟨0, by omega, rfl, by go_grown, k0, fun i hi => absurd hi (Nat.not_lt_zero i)⟩
  case round =>
    clear k0
    obtain ⟨k, hk, rfl, hL, k0, hok⟩ := hrel
    by_cases hlt : (k : Int) < n
    · by_cases hs : okS n v k
      · have Hs : Hid (0 ≤ slopeZ n v (k : Int) ∧ slopeZ n v (k : Int) ≤ 1) := hs
        clear hs
        go_wp2_with (first | (go_at_call 43; (with_reducible refine (l01Slope_any _ _ _ _ n1 n5 h0 hv (by omega) hlt).mono ?_); rintro e w' ⟨rfl, hb⟩; have hL := chain (B := w.heap.size) (a := w) (by go_grown) (Nat.le_refl _) hb; (first | replace k0 := keepAt hb k0 | replace k0 := keepAt hb (C2.alloc k0 _)); clear hb) | (go_at_call 50; (with_reducible refine (l01In_yes _ _ _ _ Hs.out).mono ?_); rintro e w' ⟨rfl, rfl⟩))
        refine ⟨⟨k + 1, by omega, by go_num, hL, k0, fun i hi => ?_⟩, by simp [intOf]; omega⟩
        rcases Nat.lt_or_ge i k with h | h
        · exact hok.out i h
        · have e : i = k := by omega
          subst e; exact Hs.out
      · have Hs : Hid (¬ (0 ≤ slopeZ n v (k : Int) ∧ slopeZ n v (k : Int) ≤ 1)) := hs
        have hr : Hid (decide (monoP n v) = false) := decide_eq_false (fun h => hs (h k (by omega)))
        clear hs
        go_wp2_with (first | (go_at_call 43; (with_reducible refine (l01Slope_any _ _ _ _ n1 n5 h0 hv (by omega) hlt).mono ?_); rintro e w' ⟨rfl, hb⟩; have hL := chain (B := w.heap.size) (a := w) (by go_grown) (Nat.le_refl _) hb; (first | replace k0 := keepAt hb k0 | replace k0 := keepAt hb (C2.alloc k0 _)); clear hb) | (go_at_call 50; (with_reducible refine (l01In_no _ _ _ _ Hs.out).mono ?_); rintro e w' ⟨rfl, rfl⟩))
        go_ret
        exact ⟨by rw [hr.out]; rfl, hL⟩
    · have hr : Hid (decide (monoP n v) = true) := decide_eq_true (fun i hi => hok.out i (by omega))
      go_wp2_with fail
      go_ret
      exact ⟨by rw [hr.out]; rfl, hL⟩

/-- what IsMonotone gives -/
def monoRes (n v : Int) : Value := if isTab n v = true then .tuple #[.bool (decide (monoP n v)), .int .i64 0] else .tuple #[.bool false, .int .i64 1]
theorem monoRes_cases (n v : Int) : ∃ (a : Bool) (b : Int), monoRes n v = .tuple #[.bool a, .int .i64 b] := by
  unfold monoRes; split <;> exact ⟨_, _, rfl⟩

theorem sIsMonotone_any (n v : Int) (w : World) :
    Calls Try.prog 21 #[.agg #[.int .i64 n, .int .i64 v]] w fun e w' => e = .returned (monoRes n v) ∧ Below w.heap.size w w' := by
  have k0 := C2.here w (.int .i64 n) (.int .i64 v) 27
  by_cases ht : isTab n v = true
  · obtain ⟨n1, n5, h0, hv⟩ := tab_bd ht
    have hr : Hid (monoRes n v = .tuple #[.bool (decide (monoP n v)), .int .i64 0]) := by unfold Hid monoRes; rw [if_pos ht]
    have Ht := Lib.hid ht
    clear ht
    have HM := Lib.hid (fun w => l01Monotone_any n v w n1 n5 h0 hv)
    generalize decide (monoP n v) = d at *
    go_enter Try.func21, Try.ntmps21
    go_wp2_with (first | (go_at_call 39; (with_reducible refine (l01Is_b _ _ _ Ht.out).mono ?_); rintro e w' ⟨rfl, hb⟩; have hL := chain (B := w.heap.size) (a := w) (by go_grown) (Nat.le_refl _) hb; (first | replace k0 := keepAt hb k0 | replace k0 := keepAt hb (C2.alloc k0 _)); clear hb) | (go_at_call 45; (with_reducible refine (HM.out _).mono ?_); rintro e w' ⟨rfl, hb⟩; have hL := chain (B := w.heap.size) (a := w) (by go_grown) (Nat.le_refl _) hb; (first | replace k0 := keepAt hb k0 | replace k0 := keepAt hb (C2.alloc k0 _)); clear hb))
    go_ret2
    exact ⟨by rw [hr.out]; rfl, hL⟩
  · have hr : Hid (monoRes n v = .tuple #[.bool false, .int .i64 1]) := by unfold Hid monoRes; rw [if_neg ht]
    have Ht : Hid (isTab n v = false) := by unfold Hid; simpa using ht
    clear ht
    go_enter Try.func21, Try.ntmps21
    go_wp2_with (first | (go_at_call 39; (with_reducible refine (l01Is_b _ _ _ Ht.out).mono ?_); rintro e w' ⟨rfl, hb⟩; have hL := chain (B := w.heap.size) (a := w) (by go_grown) (Nat.le_refl _) hb; (first | replace k0 := keepAt hb k0 | replace k0 := keepAt hb (C2.alloc k0 _)); clear hb))
    go_ret2
    exact ⟨by rw [hr.out]; rfl, hL⟩

set_option maxRecDepth 100000 in
set_option maxHeartbeats 1000000 in
theorem iIsMonotone_any (n v : Int) (w : World) :
    Calls Try.prog 22 #[.agg #[.int .i64 n, .int .i64 v]] w fun e w' => e = .returned (monoRes n v) ∧ Below w.heap.size w w' := by
  have k0 := C2.here w (.int .i64 n) (.int .i64 v) 27
  by_cases ht : isTab n v = true
  · obtain ⟨n1, n5, h0, hv⟩ := tab_bd ht
    have hr : Hid (monoRes n v = .tuple #[.bool (decide (monoP n v)), .int .i64 0]) := by unfold Hid monoRes; rw [if_pos ht]
    have Ht := Lib.hid ht
    clear ht
    have HM : Hid (∀ i, i < n.toNat → (sloTo n v n.toNat).getD i 0 = slopeZ n v (i : Int)) := fun i hi => by simp [sloTo, List.getD_eq_getElem?_getD, hi]
    go_enter Try.func22, Try.ntmps22
    go_wp2_with (first | (go_at_call 41; (with_reducible refine (isTable_b _ _ _ Ht.out).mono ?_); rintro e w' ⟨rfl, hb⟩; have hL := chain (B := w.heap.size) (a := w) (by go_grown) (Nat.le_refl _) hb; (first | replace k0 := keepAt hb k0 | replace k0 := keepAt hb (C2.alloc k0 _)); clear hb))
    refine (slopes_any n v _ n1 n5 h0 hv).mono ?_
    rintro e w1 ⟨u, rfl, oo, hb⟩
    have hL2 := chain (B := w.heap.size) (a := w) (by go_grown) (Nat.le_refl _) hb
    obtain ⟨a, cap, rfl, hm, hrd⟩ := oo.reads
    rw [sloTo_len] at *
    rcases hrd with hrd | ⟨b, off, rfl, hrd⟩
    · have := sloTo_len n v n.toNat
      rw [hrd] at this
      simp at this
      omega
    · have Hc : Hid (∀ i, i < n.toNat → w1.cell? ⟨b, off + i, none⟩ = some (.int .i64 (slopeZ n v (i : Int)))) := fun i hi => by rw [hrd i hi, HM.out i hi]
      clear hrd oo hb
      have hmax : max n 0 = n := by omega
      go_wp2_with fail
      go_loop [12] (fun c => ∃ k : Nat, (k : Int) ≤ n ∧ c = .int .i64 (k : Int) ∧ Hid (∀ i, i < k → okS n v i)) (fun c => (n - intOf c).toNat)
      case atStart => exact ⟨0, by omega, rfl, fun i hi => absurd hi (Nat.not_lt_zero i)⟩
      case round =>
        obtain ⟨k, hk, rfl, hok⟩ := hrel
        by_cases hlt : (k : Int) < n
        · have hca := Hc.out k (by omega)
          have hi0 : (0 : Int) ≤ (k : Int) := by omega
          have hkn : k < n.toNat := by omega
          by_cases hs : okS n v k
          · have Hs := Lib.hid hs
            have hx : slopeZ n v (k : Int) = 0 ∨ slopeZ n v (k : Int) = 1 := by have := hs.1; have := hs.2; omega
            clear hs
            have hnext : Hid (∀ i, i < k + 1 → okS n v i) := fun i hi => by
              rcases Nat.lt_or_ge i k with h | h
              · exact hok.out i h
              · have e : i = k := by omega
                subst e; exact Hs.out
            rcases hx with hx | hx
            · rw [hx] at hca
              clear hx
              go_wp2_with fail
              go_round
              case rel => exact ⟨k + 1, by omega, by go_num, hnext⟩
              case measure => simp [intOf]; omega
            · rw [hx] at hca
              clear hx
              go_wp2_with fail
              go_round
              case rel => exact ⟨k + 1, by omega, by go_num, hnext⟩
              case measure => simp [intOf]; omega
          · have hd : Hid (decide (monoP n v) = false) := decide_eq_false (fun h => hs (h k (by omega)))
            have hx0 : (slopeZ n v (k : Int) != 0) = true := by
              simp only [bne_iff_ne]; intro e; exact hs ⟨by omega, by omega⟩
            have hx1 : (slopeZ n v (k : Int) != 1) = true := by
              simp only [bne_iff_ne]; intro e; exact hs ⟨by omega, by omega⟩
            clear hs
            generalize slopeZ n v (k : Int) = x at *
            go_wp2_with fail
            go_ret2
            exact ⟨by rw [hr.out, hd.out]; rfl, hL2⟩
        · have hd : Hid (decide (monoP n v) = true) := decide_eq_true (fun i hi => hok.out i (by omega))
          go_wp2_with fail
          go_ret2
          exact ⟨by rw [hr.out, hd.out]; rfl, hL2⟩
  · have hr : Hid (monoRes n v = .tuple #[.bool false, .int .i64 1]) := by unfold Hid monoRes; rw [if_neg ht]
    have Ht : Hid (isTab n v = false) := by unfold Hid; simpa using ht
    clear ht
    go_enter Try.func22, Try.ntmps22
    go_wp2_with (first | (go_at_call 41; (with_reducible refine (isTable_b _ _ _ Ht.out).mono ?_); rintro e w' ⟨rfl, hb⟩; have hL := chain (B := w.heap.size) (a := w) (by go_grown) (Nat.le_refl _) hb; (first | replace k0 := keepAt hb k0 | replace k0 := keepAt hb (C2.alloc k0 _)); clear hb))
    go_ret2
    exact ⟨by rw [hr.out]; rfl, hL⟩

theorem walkFnExactIsMonotone (n v : Int) (wa : (Lit.int .i64 n).wf = true) (wb : (Lit.int .i64 v).wf = true) (w : World) :
    Calls Try.prog 5 #[.agg #[.int .i64 n, .int .i64 v]] w fun e w' => e = .returned (.bool true) ∧ Below w.heap.size w w' := by
  obtain ⟨a, b, hab⟩ := monoRes_cases n v
  have D1 : Hid (∀ w, Calls Try.prog 22 #[.agg #[.int .i64 n, .int .i64 v]] w fun e w' => e = .returned (.tuple #[.bool a, .int .i64 b]) ∧ Below w.heap.size w w') := fun w => hab ▸ iIsMonotone_any n v w
  have D2 : Hid (∀ w, Calls Try.prog 21 #[.agg #[.int .i64 n, .int .i64 v]] w fun e w' => e = .returned (.tuple #[.bool a, .int .i64 b]) ∧ Below w.heap.size w w') := fun w => hab ▸ sIsMonotone_any n v w
  clear hab
  have k0 := C2.here w (.int .i64 n) (.int .i64 v) 23
  cases a <;>
  · go_enter Try.func5, Try.ntmps5
    go_wp2_with (first | (go_at_call 14; (with_reducible refine (toTable_any _ _ _).mono ?_); rintro e w' ⟨rfl, hb⟩; have hL := chain (B := w.heap.size) (a := w) (by go_grown) (Nat.le_refl _) hb; (first | replace k0 := keepAt hb k0 | replace k0 := keepAt hb (C2.alloc k0 _)); clear hb) | (go_at_call 22; (with_reducible refine (D1.out _).mono ?_); rintro e w' ⟨rfl, hb⟩; have hL := chain (B := w.heap.size) (a := w) (by go_grown) (Nat.le_refl _) hb; (first | replace k0 := keepAt hb k0 | replace k0 := keepAt hb (C2.alloc k0 _)); clear hb) | (go_at_call 21; (with_reducible refine (D2.out _).mono ?_); rintro e w' ⟨rfl, hb⟩; have hL := chain (B := w.heap.size) (a := w) (by go_grown) (Nat.le_refl _) hb; (first | replace k0 := keepAt hb k0 | replace k0 := keepAt hb (C2.alloc k0 _)); clear hb))
    go_ret
    exact ⟨rfl, hL⟩

end Go.Proofs.Ytgcdpbikeimelab
