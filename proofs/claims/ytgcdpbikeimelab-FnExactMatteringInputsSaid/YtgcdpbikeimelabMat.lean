/- MatteringInputs: the program's and the model's. -/
import Derived.Test.YtgcdpbikeimelabSPart
import Derived.Test.YtgcdpbikeimelabOwn
namespace Go.Proofs.Ytgcdpbikeimelab
open Go.RowKit
set_option linter.unusedVariables false

/-- does an input matter -/
def mattersB (n v i : Int) : Bool := partVals n v i 0 != partVals n v i 1
/-- the inputs below k that matter -/
def matTo (n v : Int) (k : Nat) : List Int := ((List.range k).filter fun (j : Nat) => mattersB n v (j : Int)).map fun (j : Nat) => (j : Int)
theorem matTo_hit (n v : Int) (k : Nat) (h : mattersB n v (k : Int) = true) : matTo n v (k + 1) = matTo n v k ++ [(k : Int)] := by
  simp [matTo, List.range_succ, h]
theorem matTo_miss (n v : Int) (k : Nat) (h : mattersB n v (k : Int) = false) : matTo n v (k + 1) = matTo n v k := by
  simp [matTo, List.range_succ, h]
theorem matTo_len (n v : Int) (k : Nat) : (matTo n v k).length ≤ k := by
  have := List.length_filter_le (fun (j : Nat) => mattersB n v (j : Int)) (List.range k)
  simpa [matTo] using this
def matOf (n v : Int) : List Int := if isTab n v = true then matTo n v n.toNat else []
def tabCode (n v : Int) : Int := if isTab n v = true then 0 else 1
theorem matOf_len (n v : Int) : (matOf n v).length ≤ 1000 := by
  unfold matOf
  split
  · rename_i h
    obtain ⟨h1, h5, _, _⟩ := tab_bd h
    have := matTo_len n v n.toNat
    omega
  · simp

theorem l01Matters_b (n v i : Int) (w : World) (n1 : 1 ≤ n) (n5 : n ≤ 5) (h0 : 0 ≤ v) (hv : v < 9223372036854775808) (i0 : 0 ≤ i) (in_ : i < n) {b : Bool} (hb : mattersB n v i = b) :
    Calls Try.prog 40 #[.agg #[.int .i64 n, .int .i64 v], .int .i64 i] w fun e w' => e = .returned (.bool b) ∧ Below w.heap.size w w' := by
  have k0 := C2.here w (.int .i64 n) (.int .i64 v) 27
  have hnn : (n == n) = true := by simp
  cases hq : (partVals n v i 0 == partVals n v i 1)
  · have hne : Hid (true = b) := by unfold Hid; rw [← hb]; unfold mattersB bne; rw [hq]; rfl
    clear hb
    go_enter Try.func40, Try.ntmps40
    go_wp2_with fail
    go_region_held3 (fun w' => C2 w' w.heap.size (.int .i64 n) (.int .i64 v)) (exact k0) (((go_at_call 67; (with_reducible refine (l01Part_any _ _ _ _ _ n1 n5 h0 hv i0 in_ (by omega) (by omega)).mono ?_); rintro e w' ⟨rfl, hb⟩; have hL := chain (B := w.heap.size) (a := w) (by go_grown) (Nat.le_refl _) hb; (first | replace k0 := keepAt hb k0 | replace k0 := keepAt hb (C2.alloc k0 _)); clear hb)))
    go_wp2_with fail
    go_ret
    exact ⟨by rw [← hne.out]; rfl, hL⟩
  · have hne : Hid (false = b) := by unfold Hid; rw [← hb]; unfold mattersB bne; rw [hq]; rfl
    clear hb
    go_enter Try.func40, Try.ntmps40
    go_wp2_with fail
    go_region_held3 (fun w' => C2 w' w.heap.size (.int .i64 n) (.int .i64 v)) (exact k0) (((go_at_call 67; (with_reducible refine (l01Part_any _ _ _ _ _ n1 n5 h0 hv i0 in_ (by omega) (by omega)).mono ?_); rintro e w' ⟨rfl, hb⟩; have hL := chain (B := w.heap.size) (a := w) (by go_grown) (Nat.le_refl _) hb; (first | replace k0 := keepAt hb k0 | replace k0 := keepAt hb (C2.alloc k0 _)); clear hb)))
    go_wp2_with fail
    go_ret
    exact ⟨by rw [← hne.out]; rfl, hL⟩

set_option maxRecDepth 100000 in
set_option maxHeartbeats 1000000 in
theorem sMatteringInputs_any (n v : Int) (w : World) :
    Calls Try.prog 13 #[.agg #[.int .i64 n, .int .i64 v]] w fun e w' => ∃ u, e = .returned (.tuple #[u, .int .i64 (tabCode n v)]) ∧ Owns w' w.heap.size u (matOf n v) ∧ Below w.heap.size w w' := by
  have k0 := C2.here w (.int .i64 n) (.int .i64 v) 27
  by_cases ht : isTab n v = true
  · obtain ⟨n1, n5, h0, hv⟩ := tab_bd ht
    have hr : Hid (matOf n v = matTo n v n.toNat) := by unfold Hid matOf; rw [if_pos ht]
    have hr2 : Hid (tabCode n v = 0) := by unfold Hid tabCode; rw [if_pos ht]
    have Ht := Lib.hid ht
    clear ht
    obtain ⟨i0, hi, hz0, hz1, hz2⟩ := info_parts info64
    go_enter Try.func13, Try.ntmps13
    go_wp2_with ((go_at_call 39; (with_reducible refine (l01Is_b _ _ _ Ht.out).mono ?_); rintro e w' ⟨rfl, hb⟩; have hL := chain (B := w.heap.size) (a := w) (by go_grown) (Nat.le_refl _) hb; (first | replace k0 := keepAt hb k0 | replace k0 := keepAt hb (C2.alloc k0 _)); clear hb))
    have hz0' := k0.2.2.2.2
    go_loopw [4, 5] (fun u c wr => ∃ k : Nat, (k : Int) ≤ n ∧ c = .int .i64 (k : Int) ∧ Below w.heap.size w wr ∧ C2 wr w.heap.size (.int .i64 n) (.int .i64 v) ∧ Owns wr (w.heap.size + 1) u (matTo n v k))
      (fun _ c _ => (n - intOf c).toNat)
    case atStart =>
      refine ⟨0, by omega, rfl, by go_grown, k0.alloc _, ?_⟩
      exact World.ownsRow_made (base := w.heap.size + 1) (e := 2) (size := 1) w' #[] 0 (by omega) (by simp) rfl
    case round =>
      clear k0 hL
      obtain ⟨k, hk, rfl, hL, k0, oo⟩ := hrel
      have z0 := k0.2.2.2.2
      by_cases hlt : (k : Int) < n
      · have Hl := Lib.hid (matTo_len n v k)
        cases hd : mattersB n v (k : Int)
        · have Hn := Lib.hid (matTo_miss n v k hd)
          have Hd := Lib.hid hd
          clear hd
          go_wp2_with (first | (go_at_call 40; (with_reducible refine (l01Matters_b _ _ _ _ n1 n5 h0 hv (by omega) hlt Hd.out).mono ?_); rintro e w' ⟨rfl, hb⟩; have hL := chain (B := w.heap.size) (a := w) (by go_grown) (Nat.le_refl _) hb; (first | replace k0 := keepAt hb k0 | replace k0 := keepAt hb (C2.alloc k0 _)); replace oo := ownsKeepAt hb oo; clear hb))
          exact ⟨⟨k + 1, by omega, by go_num, by go_grown, k0, by rw [Hn.out]; exact oo⟩, by simp [intOf]; omega⟩
        · have Hn := Lib.hid (matTo_hit n v k hd)
          have Hd := Lib.hid hd
          clear hd
          go_wp2_with (first | (go_at_call 40; (with_reducible refine (l01Matters_b _ _ _ _ n1 n5 h0 hv (by omega) hlt Hd.out).mono ?_); rintro e w' ⟨rfl, hb⟩; have hL := chain (B := w.heap.size) (a := w) (by go_grown) (Nat.le_refl _) hb; (first | replace k0 := keepAt hb k0 | replace k0 := keepAt hb (C2.alloc k0 _)); replace oo := ownsKeepAt hb oo; clear hb) | (at_builtin; refine wpList_append_own _ rfl _ _ 24 rfl (w.heap.size + 1) 2 i0 (.int .i64 0) 1 8 Try.underlying24 hi hz0 hz1 hz2 rfl (by decide) _ _ _ rfl (World.ownsRow.alloc oo _) ⟨w'.heap.size, 0, none⟩ 1 1 [.int .i64 (k : Int)] rfl rfl (cell_one_new _ _ _) (by simp [Value.oneCell']) (by have := Hl.out; unfold maxLen; omega) (by have := Hl.out; omega) (by have := hL.size; have := k0.2.2.2.2; simp; omega) ?_; intro v' w1 hown' hgrow hnil))
          have hz' := hL.size
          have ho' := oo.notBlock (b := w.heap.size) (by omega)
          have hfrom := oo.rowsFrom (B := w.heap.size) (by omega)
          exact ⟨⟨k + 1, by omega, by go_num, (hL.alloc (by omega) _).grown hgrow (by simp; omega) hfrom, (k0.alloc _).grown hgrow ho', by rw [Hn.out]; exact Owns.snoc hown'⟩, by simp [intOf]; omega⟩
      · have Hk : Hid ((k : Nat) = n.toNat) := by unfold Hid; omega
        go_wp2_with fail
        go_ret2
        exact ⟨_, by rw [hr2.out]; rfl, by rw [hr.out, ← Hk.out]; exact oo.mono (by omega), hL⟩
  · have hr : Hid (matOf n v = []) := by unfold Hid matOf; rw [if_neg ht]
    have hr2 : Hid (tabCode n v = 1) := by unfold Hid tabCode; rw [if_neg ht]
    have Ht : Hid (isTab n v = false) := by unfold Hid; simpa using ht
    clear ht
    go_enter Try.func13, Try.ntmps13
    go_wp2_with (first | (go_at_call 39; (with_reducible refine (l01Is_b _ _ _ Ht.out).mono ?_); rintro e w' ⟨rfl, hb⟩; have hL := chain (B := w.heap.size) (a := w) (by go_grown) (Nat.le_refl _) hb; (first | replace k0 := keepAt hb k0 | replace k0 := keepAt hb (C2.alloc k0 _)); clear hb))
    go_ret2
    exact ⟨_, by rw [hr2.out]; rfl, by rw [hr.out]; exact World.ownsRow_nil _ _ _ _, hL⟩

set_option maxRecDepth 100000 in
set_option maxHeartbeats 1000000 in
theorem iMatteringInputs_any (n v : Int) (w : World) :
    Calls Try.prog 15 #[.agg #[.int .i64 n, .int .i64 v]] w fun e w' => ∃ u, e = .returned (.tuple #[u, .int .i64 (tabCode n v)]) ∧ Owns w' w.heap.size u (matOf n v) ∧ Below w.heap.size w w' := by
  have k0 := C2.here w (.int .i64 n) (.int .i64 v) 27
  by_cases ht : isTab n v = true
  · obtain ⟨n1, n5, h0, hv⟩ := tab_bd ht
    have hr : Hid (matOf n v = matTo n v n.toNat) := by unfold Hid matOf; rw [if_pos ht]
    have hr2 : Hid (tabCode n v = 0) := by unfold Hid tabCode; rw [if_pos ht]
    have Ht := Lib.hid ht
    clear ht
    obtain ⟨i0, hi, hz0, hz1, hz2⟩ := info_parts info64
    have hnn : (n == n) = true := by simp
    go_enter Try.func15, Try.ntmps15
    go_wp2_with (first | (go_at_call 41; (with_reducible refine (isTable_b _ _ _ Ht.out).mono ?_); rintro e w' ⟨rfl, hb⟩; have hL := chain (B := w.heap.size) (a := w) (by go_grown) (Nat.le_refl _) hb; (first | replace k0 := keepAt hb k0 | replace k0 := keepAt hb (C2.alloc k0 _)); clear hb))
    have hz0' := k0.2.2.2.2
    go_loopw [4, 11] (fun u c wr => ∃ k : Nat, (k : Int) ≤ n ∧ c = .int .i64 (k : Int) ∧ Below w.heap.size w wr ∧ C2 wr w.heap.size (.int .i64 n) (.int .i64 v) ∧ Owns wr (w.heap.size + 1) u (matTo n v k))
      (fun _ c _ => (n - intOf c).toNat)
    case atStart => exact ⟨0, by omega, rfl, hL, k0, World.ownsRow_nil _ _ _ _⟩
    case round =>
      clear k0 hL
      obtain ⟨k, hk, rfl, hL, k0, oo⟩ := hrel
      have z0 := k0.2.2.2.2
      by_cases hlt : (k : Int) < n
      · have Hl := Lib.hid (matTo_len n v k)
        cases hq : (partVals n v (k : Int) 0 == partVals n v (k : Int) 1)
        · have Hn := Lib.hid (matTo_hit n v k (by unfold mattersB bne; rw [hq]; rfl))
          go_wp2_with fail
          go_region_held3 (fun w' => C2 w' w.heap.size (.int .i64 n) (.int .i64 v)) (exact k0) (((go_at_call 42; (with_reducible refine (part_any _ _ _ _ _ n1 n5 h0 hv (by omega) hlt (by omega) (by omega)).mono ?_); rintro e w' ⟨rfl, hb⟩; have hL := chain (B := w.heap.size) (a := w) (by go_grown) (Nat.le_refl _) hb; (first | replace k0 := keepAt hb k0 | replace k0 := keepAt hb (C2.alloc k0 _)); replace oo := ownsKeepAt hb oo; clear hb)))
          go_wp2_with (at_builtin; refine wpList_append_own _ rfl _ _ 24 rfl (w.heap.size + 1) 2 i0 (.int .i64 0) 1 8 Try.underlying24 hi hz0 hz1 hz2 rfl (by decide) _ _ _ rfl (World.ownsRow.alloc oo _) ⟨w'.heap.size, 0, none⟩ 1 1 [.int .i64 (k : Int)] rfl rfl (cell_one_new _ _ _) (by simp [Value.oneCell']) (by have := Hl.out; unfold maxLen; omega) (by have := Hl.out; omega) (by have := hL.size; have := k0.2.2.2.2; simp; omega) ?_; intro v' w1 hown' hgrow hnil)
          have hz' := hL.size
          have ho' := oo.notBlock (b := w.heap.size) (by omega)
          have hfrom := oo.rowsFrom (B := w.heap.size) (by omega)
          exact ⟨⟨k + 1, by omega, by go_num, (hL.alloc (by omega) _).grown hgrow (by simp; omega) hfrom, (k0.alloc _).grown hgrow ho', by rw [Hn.out]; exact Owns.snoc hown'⟩, by simp [intOf]; omega⟩
        · have Hn := Lib.hid (matTo_miss n v k (by unfold mattersB bne; rw [hq]; rfl))
          go_wp2_with fail
          go_region_held3 (fun w' => C2 w' w.heap.size (.int .i64 n) (.int .i64 v)) (exact k0) (((go_at_call 42; (with_reducible refine (part_any _ _ _ _ _ n1 n5 h0 hv (by omega) hlt (by omega) (by omega)).mono ?_); rintro e w' ⟨rfl, hb⟩; have hL := chain (B := w.heap.size) (a := w) (by go_grown) (Nat.le_refl _) hb; (first | replace k0 := keepAt hb k0 | replace k0 := keepAt hb (C2.alloc k0 _)); replace oo := ownsKeepAt hb oo; clear hb)))
          go_wp2_with fail
          exact ⟨⟨k + 1, by omega, by go_num, by go_grown, k0, by rw [Hn.out]; exact oo⟩, by simp [intOf]; omega⟩
      · have Hk : Hid ((k : Nat) = n.toNat) := by unfold Hid; omega
        go_wp2_with fail
        go_ret2
        exact ⟨_, by rw [hr2.out]; rfl, by rw [hr.out, ← Hk.out]; exact oo.mono (by omega), hL⟩
  · have hr : Hid (matOf n v = []) := by unfold Hid matOf; rw [if_neg ht]
    have hr2 : Hid (tabCode n v = 1) := by unfold Hid tabCode; rw [if_neg ht]
    have Ht : Hid (isTab n v = false) := by unfold Hid; simpa using ht
    clear ht
    go_enter Try.func15, Try.ntmps15
    go_wp2_with (first | (go_at_call 41; (with_reducible refine (isTable_b _ _ _ Ht.out).mono ?_); rintro e w' ⟨rfl, hb⟩; have hL := chain (B := w.heap.size) (a := w) (by go_grown) (Nat.le_refl _) hb; (first | replace k0 := keepAt hb k0 | replace k0 := keepAt hb (C2.alloc k0 _)); clear hb))
    go_ret2
    exact ⟨_, by rw [hr2.out]; rfl, by rw [hr.out]; exact World.ownsRow_nil _ _ _ _, hL⟩

end Go.Proofs.Ytgcdpbikeimelab
