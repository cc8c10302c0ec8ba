/- TurnInput: the program's and the model's. -/
import Derived.Test.YtgcdpbikeimelabSPart
namespace Go.Proofs.Ytgcdpbikeimelab
open Go.RowKit
set_option linter.unusedVariables false

/-- the row with the other value for the input i -/
def turnRow (i k : Int) : Int := bits .xor .i64 k (wrap64 (2 ^ i.toNat))
theorem turnRow_fin : ∀ (n : Fin 6) (i : Fin 5) (k : Fin 32), i.val < n.val → k.val < 2 ^ n.val → 0 ≤ turnRow (i.val : Int) (k.val : Int) ∧ turnRow (i.val : Int) (k.val : Int) < ((2 ^ n.val : Nat) : Int) := by
  decide +kernel
theorem turnRow_bd {n i : Int} {k : Nat} (n5 : n ≤ 5) (i0 : 0 ≤ i) (in_ : i < n) (hk : k < 2 ^ n.toNat) : 0 ≤ turnRow i k ∧ turnRow i k < ((2 ^ n.toNat : Nat) : Int) := by
  obtain ⟨N, rfl⟩ := Int.eq_ofNat_of_zero_le (show 0 ≤ n by omega)
  obtain ⟨I, rfl⟩ := Int.eq_ofNat_of_zero_le i0
  rw [Int.toNat_natCast] at *
  have h32 : 2 ^ N ≤ 2 ^ 5 := Nat.pow_le_pow_right (by decide) (by omega)
  exact turnRow_fin ⟨N, by omega⟩ ⟨I, by omega⟩ ⟨k, by omega⟩ (show I < N by omega) hk
/-- the values of the table with an input turned round -/
def turnVals (n v i : Int) : Int := buildZ (fun j => dig v.toNat (turnRow i j).toNat) (2 ^ n.toNat)

theorem turnClos_any (i k : Int) (bi : Nat) (w : World) (i0 : 0 ≤ i) (i5 : i ≤ 4) (hi : w.cell? ⟨bi, 0, none⟩ = some (.int .i64 i)) :
    Calls Try.prog 55 #[.int .i64 k, .pointer (some ⟨bi, 0, none⟩)] w fun e w' => e = .returned (.int .i64 (turnRow i k)) ∧ Below w.heap.size w w' := by
  go_enter Try.func55, Try.ntmps55
  go_wp2
  go_ret
  exact ⟨rfl, Below.refl _ _⟩

/-- what TurnInput gives -/
def turnRes (n v i : Int) : Value :=
  if isTab n v = true then (if 0 ≤ i ∧ i < n then .tuple #[.agg #[.int .i64 n, .int .i64 (turnVals n v i)], .int .i64 0] else .tuple #[.agg #[.int .i64 0, .int .i64 0], .int .i64 2])
  else .tuple #[.agg #[.int .i64 0, .int .i64 0], .int .i64 1]
theorem turnRes_cases (n v i : Int) : ∃ a b c : Int, turnRes n v i = .tuple #[.agg #[.int .i64 a, .int .i64 b], .int .i64 c] := by
  unfold turnRes; split
  · split <;> exact ⟨_, _, _, rfl⟩
  · exact ⟨_, _, _, rfl⟩

set_option maxRecDepth 100000 in
set_option maxHeartbeats 1000000 in
theorem iTurnInput_any (n v i : Int) (w : World) :
    Calls Try.prog 28 #[.agg #[.int .i64 n, .int .i64 v], .int .i64 i] w fun e w' => e = .returned (turnRes n v i) ∧ Below w.heap.size w w' := by
  have k0 : C2 (((w.alloc (.cells #[.int .i64 n, .int .i64 v] 27)).alloc (.cells #[.int .i64 i] 2)).alloc (.cells #[.int .i64 0, .int .i64 0] 27)) w.heap.size (.int .i64 n) (.int .i64 v) := ((C2.here w _ _ _).alloc _).alloc _
  have c1 : (((w.alloc (.cells #[.int .i64 n, .int .i64 v] 27)).alloc (.cells #[.int .i64 i] 2)).alloc (.cells #[.int .i64 0, .int .i64 0] 27)).cell? ⟨w.heap.size + 1, 0, none⟩ = some (.int .i64 i) := by
    rw [World.cell?_alloc_past _ _ _ (by simp), World.cell?_alloc_at _ _ _ _ (by simp)]; rfl
  have k2 := C2.here ((w.alloc (.cells #[.int .i64 n, .int .i64 v] 27)).alloc (.cells #[.int .i64 i] 2)) (.int .i64 0) (.int .i64 0) 27
  simp only [World.size_alloc] at k2
  by_cases ht : isTab n v = true
  · obtain ⟨n1, n5, h0, hv⟩ := tab_bd ht
    by_cases hi : 0 ≤ i ∧ i < n
    · have hr : Hid (turnRes n v i = .tuple #[.agg #[.int .i64 n, .int .i64 (turnVals n v i)], .int .i64 0]) := by unfold Hid turnRes; rw [if_pos ht, if_pos hi]
      have Hi := Lib.hid hi
      have Ht := Lib.hid ht
      obtain ⟨i0, in_⟩ := hi
      clear ht
      have T := fun (wx : World) => tableFrom_any n v n 55 #[.pointer (some ⟨w.heap.size + 1, 0, none⟩)] (fun j => (turnRow i j).toNat) wx h0 hv n1 n5
      have HT := Lib.hid T
      clear T
      go_enter Try.func28, Try.ntmps28
      go_wp2_with (first | (go_at_call 41; (with_reducible refine (isTable_b _ _ _ Ht.out).mono ?_); rintro e w' ⟨rfl, hb⟩; have hL := chain (B := w.heap.size) (a := w) (by go_grown) (Nat.le_refl _) hb; (first | replace k0 := keepAt hb k0 | replace k0 := keepAt hb (C2.alloc k0 _)); replace c1 := cell_later hb c1; (first | replace k2 := keepAt hb k2 | replace k2 := keepAt hb (C2.alloc k2 _)); clear hb) | (go_at_call 53; (with_reducible refine (isBelow_yes _ _ _ Hi.out).mono ?_); rintro e w' ⟨rfl, rfl⟩))
      refine (HT.out _ ?_ ?_ (enters_of Try.func55 (by kernel_rfl) rfl)).mono ?_
      · intro k wx hk hb
        have hbd := turnRow_bd n5 i0 in_ hk
        refine (turnClos_any i k _ wx i0 (by omega) (cell_later hb c1)).mono ?_
        rintro e w' ⟨rfl, hb'⟩
        exact ⟨by rw [Int.toNat_of_nonneg hbd.1], hb'⟩
      · intro k hk
        have hbd := turnRow_bd n5 i0 in_ hk
        have h32 : 2 ^ n.toNat ≤ 2 ^ 5 := Nat.pow_le_pow_right (by decide) (by omega)
        omega
      rintro e w1 ⟨rfl, hb⟩
      have hL := chain (B := w.heap.size) (a := w) (by go_grown) (Nat.le_refl _) hb
      replace k2 := keepAt hb k2
      go_wp2_with fail
      refine bodyPost_ret (v := .tuple #[.agg #[.int .i64 n, .int .i64 (buildZ (fun j => dig v.toNat (turnRow i (j : Int)).toNat) (2 ^ n.toNat))], .int .i64 0]) (by simp [results, Try.results28, go_sem, *]) rfl ?_
      exact ⟨by rw [hr.out]; rfl, by go_grown⟩
    · have hr : Hid (turnRes n v i = .tuple #[.agg #[.int .i64 0, .int .i64 0], .int .i64 2]) := by unfold Hid turnRes; rw [if_pos ht, if_neg hi]
      have Hi := Lib.hid hi
      have Ht := Lib.hid ht
      clear ht hi
      go_enter Try.func28, Try.ntmps28
      go_wp2_with (first | (go_at_call 41; (with_reducible refine (isTable_b _ _ _ Ht.out).mono ?_); rintro e w' ⟨rfl, hb⟩; have hL := chain (B := w.heap.size) (a := w) (by go_grown) (Nat.le_refl _) hb; (first | replace k0 := keepAt hb k0 | replace k0 := keepAt hb (C2.alloc k0 _)); replace c1 := cell_later hb c1; (first | replace k2 := keepAt hb k2 | replace k2 := keepAt hb (C2.alloc k2 _)); clear hb) | (go_at_call 53; (with_reducible refine (isBelow_no _ _ _ Hi.out).mono ?_); rintro e w' ⟨rfl, rfl⟩))
      refine bodyPost_ret (v := .tuple #[.agg #[.int .i64 0, .int .i64 0], .int .i64 2]) (by simp [results, Try.results28, go_sem, *]) rfl ?_
      exact ⟨by rw [hr.out], by go_grown⟩
  · have hr : Hid (turnRes n v i = .tuple #[.agg #[.int .i64 0, .int .i64 0], .int .i64 1]) := by unfold Hid turnRes; rw [if_neg ht]
    have Ht : Hid (isTab n v = false) := by unfold Hid; simpa using ht
    clear ht
    go_enter Try.func28, Try.ntmps28
    go_wp2_with (first | (go_at_call 41; (with_reducible refine (isTable_b _ _ _ Ht.out).mono ?_); rintro e w' ⟨rfl, hb⟩; have hL := chain (B := w.heap.size) (a := w) (by go_grown) (Nat.le_refl _) hb; (first | replace k0 := keepAt hb k0 | replace k0 := keepAt hb (C2.alloc k0 _)); replace c1 := cell_later hb c1; (first | replace k2 := keepAt hb k2 | replace k2 := keepAt hb (C2.alloc k2 _)); clear hb))
    refine bodyPost_ret (v := .tuple #[.agg #[.int .i64 0, .int .i64 0], .int .i64 1]) (by simp [results, Try.results28, go_sem, *]) rfl ?_
    exact ⟨by rw [hr.out], by go_grown⟩

set_option maxRecDepth 100000 in
set_option maxHeartbeats 2000000 in
theorem sTurnInput_any (n v i : Int) (w : World) :
    Calls Try.prog 27 #[.agg #[.int .i64 n, .int .i64 v], .int .i64 i] w fun e w' => e = .returned (turnRes n v i) ∧ Below w.heap.size w w' := by
  have k0 : C2 ((w.alloc (.cells #[.int .i64 n, .int .i64 v] 27)).alloc (.cells #[.int .i64 0, .int .i64 0] 27)) (w.heap.size) (.int .i64 n) (.int .i64 v) := by simpa using (C2.here w (.int .i64 n) (.int .i64 v) 27).alloc (.cells #[.int .i64 0, .int .i64 0] 27)
  have k1 : C2 ((w.alloc (.cells #[.int .i64 n, .int .i64 v] 27)).alloc (.cells #[.int .i64 0, .int .i64 0] 27)) (w.heap.size + 1) (.int .i64 0) (.int .i64 0) := by simpa using C2.here (w.alloc (.cells #[.int .i64 n, .int .i64 v] 27)) (.int .i64 0) (.int .i64 0) 27
  by_cases ht : isTab n v = true
  · obtain ⟨n1, n5, h0, hv⟩ := tab_bd ht
    by_cases hi : 0 ≤ i ∧ i < n
    · have hr : Hid (turnRes n v i = .tuple #[.agg #[.int .i64 n, .int .i64 (turnVals n v i)], .int .i64 0]) := by unfold Hid turnRes; rw [if_pos ht, if_pos hi]
      have Hi : Hid (0 ≤ i ∧ i ≤ n - 1) := ⟨hi.1, by omega⟩
      have Ht := Lib.hid ht
      obtain ⟨i0, in_⟩ := hi
      clear ht
      have Hr : Hid (rcZ n = ((2 ^ n.toNat : Nat) : Int)) := rfl
      have hr5 := rcZ_bd n1 n5
      go_enter Try.func27, Try.ntmps27
      go_wp2_with (first | (go_at_call 39; (with_reducible refine (l01Is_b _ _ _ Ht.out).mono ?_); rintro e w' ⟨rfl, hb⟩; have hL := chain (B := w.heap.size) (a := w) (by go_grown) (Nat.le_refl _) hb; (first | replace k0 := keepAt hb k0 | replace k0 := keepAt hb (C2.alloc k0 _)); (first | replace k1 := keepAt hb k1 | replace k1 := keepAt hb (C2.alloc k1 _)); clear hb) | (go_at_call 50; (with_reducible refine (l01In_yes _ _ _ _ Hi.out).mono ?_); rintro e w' ⟨rfl, rfl⟩))
      have z0 := k0.2.2.2.2
      have z1 := k1.2.2.2.2
      have k2 := C2.here w' (.int .i64 n) (.int .i64 0) 27
      go_loopw [7] (fun c wr => ∃ k : Nat, (k : Int) ≤ rcZ n ∧ c = .int .i64 (k : Int) ∧ Below w.heap.size w wr ∧ C2 wr w.heap.size (.int .i64 n) (.int .i64 v) ∧ C2 wr (w.heap.size + 1) (.int .i64 0) (.int .i64 0) ∧ C2 wr w'.heap.size (.int .i64 n) (.int .i64 (buildZ (fun j => dig v.toNat (turnRow i j).toNat) k)))
        (fun c _ => (rcZ n - intOf c).toNat)
      case atStart => exact ⟨0, by omega, rfl, by go_grown, k0.alloc _, k1.alloc _, k2⟩
      case round =>
        clear k0 k1 k2
        obtain ⟨k, hk, rfl, hL, k0, k1, k2⟩ := hrel
        by_cases hlt : (k : Int) < rcZ n
        · have Hk : Hid (k < 2 ^ n.toNat) := by have := Hr.out; unfold Hid; omega
          have hbd : 0 ≤ bits .xor .i64 (k : Int) (wrap64 (2 ^ i.toNat)) ∧ bits .xor .i64 (k : Int) (wrap64 (2 ^ i.toNat)) < ((2 ^ n.toNat : Nat) : Int) := turnRow_bd n5 i0 in_ Hk.out
          have hbd2 : bits .xor .i64 (k : Int) (wrap64 (2 ^ i.toNat)) ≤ 62 := by have := Hr.out; omega
          have Hs := Lib.hid (build_stepZ v (fun j => (turnRow i j).toNat) k _ (by omega) hbd.1 rfl)
          have Hb := Lib.hid hbd.1
          have Hb2 := Lib.hid hbd2
          clear hbd hbd2
          have hu1 := u64_in (x := i) i0 (by omega)
          have hu2 := u64_in (x := (k : Int)) (by omega) (by omega)
          have hm1 : min i.toNat 64 = i.toNat := by omega
          have hm2 : min k 64 = k := by omega
          have hw1 := wrapW (2 ^ i.toNat)
          go_wp2_with ((go_at_call 51; (with_reducible refine (l01Rows_any _ _ n1 n5).mono ?_); rintro e w' ⟨rfl, rfl⟩))
          go_region_with (first | (go_at_call 52; (with_reducible refine (l01At_any _ _ _ _ h0 hv Hb.out Hb2.out).mono ?_); rintro e w' ⟨rfl, hb⟩; have hL := chain (B := w.heap.size) (a := w) (by go_grown) (Nat.le_refl _) hb; (first | replace k0 := keepAt hb k0 | replace k0 := keepAt hb (C2.alloc k0 _)); (first | replace k1 := keepAt hb k1 | replace k1 := keepAt hb (C2.alloc k1 _)); (first | replace k2 := keepAt hb k2 | replace k2 := keepAt hb (C2.alloc k2 _)); clear hb))
          all_goals (go_wp2_with fail)
          all_goals (try rw [wrapW])
          all_goals (rw [Hs.out]; exact ⟨⟨k + 1, by omega, by go_num, by go_grown, k0.set _ _ _ (by omega), k1.set _ _ _ (by omega), k2.put1 _⟩, by simp [intOf]; omega⟩)
        · have Hk : Hid ((k : Nat) = 2 ^ n.toNat) := by have := Hr.out; unfold Hid; omega
          rw [Hk.out] at k2
          go_wp2_with ((go_at_call 51; (with_reducible refine (l01Rows_any _ _ n1 n5).mono ?_); rintro e w' ⟨rfl, rfl⟩))
          refine bodyPost_ret (v := .tuple #[.agg #[.int .i64 n, .int .i64 (buildZ (fun j => dig v.toNat (turnRow i (j : Int)).toNat) (2 ^ n.toNat))], .int .i64 0]) (by simp [results, Try.results27, go_sem, *]) rfl ?_
          exact ⟨by rw [hr.out]; rfl, by go_grown⟩
    · have hr : Hid (turnRes n v i = .tuple #[.agg #[.int .i64 0, .int .i64 0], .int .i64 2]) := by unfold Hid turnRes; rw [if_pos ht, if_neg hi]
      have Hi : Hid (¬ (0 ≤ i ∧ i ≤ n - 1)) := by unfold Hid; omega
      have Ht := Lib.hid ht
      clear ht hi
      go_enter Try.func27, Try.ntmps27
      go_wp2_with (first | (go_at_call 39; (with_reducible refine (l01Is_b _ _ _ Ht.out).mono ?_); rintro e w' ⟨rfl, hb⟩; have hL := chain (B := w.heap.size) (a := w) (by go_grown) (Nat.le_refl _) hb; (first | replace k0 := keepAt hb k0 | replace k0 := keepAt hb (C2.alloc k0 _)); (first | replace k1 := keepAt hb k1 | replace k1 := keepAt hb (C2.alloc k1 _)); clear hb) | (go_at_call 50; (with_reducible refine (l01In_no _ _ _ _ Hi.out).mono ?_); rintro e w' ⟨rfl, rfl⟩))
      refine bodyPost_ret (v := .tuple #[.agg #[.int .i64 0, .int .i64 0], .int .i64 2]) (by simp [results, Try.results27, go_sem, *]) rfl ?_
      exact ⟨by rw [hr.out], by go_grown⟩
  · have hr : Hid (turnRes n v i = .tuple #[.agg #[.int .i64 0, .int .i64 0], .int .i64 1]) := by unfold Hid turnRes; rw [if_neg ht]
    have Ht : Hid (isTab n v = false) := by unfold Hid; simpa using ht
    clear ht
    go_enter Try.func27, Try.ntmps27
    go_wp2_with (first | (go_at_call 39; (with_reducible refine (l01Is_b _ _ _ Ht.out).mono ?_); rintro e w' ⟨rfl, hb⟩; have hL := chain (B := w.heap.size) (a := w) (by go_grown) (Nat.le_refl _) hb; (first | replace k0 := keepAt hb k0 | replace k0 := keepAt hb (C2.alloc k0 _)); (first | replace k1 := keepAt hb k1 | replace k1 := keepAt hb (C2.alloc k1 _)); clear hb))
    refine bodyPost_ret (v := .tuple #[.agg #[.int .i64 0, .int .i64 0], .int .i64 1]) (by simp [results, Try.results27, go_sem, *]) rfl ?_
    exact ⟨by rw [hr.out], by go_grown⟩

end Go.Proofs.Ytgcdpbikeimelab
