/- Slopes: one input's, the model's; and the model's list. -/
import Derived.Test.YtgcdpbikeimelabSPart
import Derived.Test.YtgcdpbikeimelabOwn
namespace Go.Proofs.Ytgcdpbikeimelab
open Go.RowKit
set_option linter.unusedVariables false

theorem field1 (a b : Int) (w : World) : (Instr.field 27 (.agg #[.int .i64 a, .int .i64 b]) 1).run Try.prog w = .ok (.int .i64 b) w := by kernel_rfl

/-- how a table goes with an input -/
def slopeZ (n v i : Int) : Int :=
  if partVals n v i 0 == partVals n v i 1 then 0 else if bits .andNot .i64 (partVals n v i 0) (partVals n v i 1) == 0 then 1
  else if bits .andNot .i64 (partVals n v i 1) (partVals n v i 0) == 0 then -1 else 2

set_option maxRecDepth 100000 in
set_option maxHeartbeats 1000000 in
theorem l01Slope_any (n v i : Int) (w : World) (n1 : 1 ≤ n) (n5 : n ≤ 5) (h0 : 0 ≤ v) (hv : v < 9223372036854775808) (i0 : 0 ≤ i) (in_ : i < n) :
    Calls Try.prog 43 #[.agg #[.int .i64 n, .int .i64 v], .int .i64 i] w fun e w' => e = .returned (.int .i64 (slopeZ n v i)) ∧ Below w.heap.size w w' := by
  have k0 := C2.here w (.int .i64 n) (.int .i64 v) 27
  have hfld := field1
  cases hq : (partVals n v i 0 == partVals n v i 1)
  · cases hr : (bits .andNot .i64 (partVals n v i 0) (partVals n v i 1) == 0)
    · cases hs : (bits .andNot .i64 (partVals n v i 1) (partVals n v i 0) == 0)
      · have hz : Hid (slopeZ n v i = 2) := by unfold Hid slopeZ; rw [hq, hr, hs]; rfl
        go_enter Try.func43, Try.ntmps43
        go_wp2_with fail
        go_region_held3 (fun w' => C2 w' w.heap.size (.int .i64 n) (.int .i64 v)) (exact k0) (((go_at_call 67; (with_reducible refine (l01Part_any _ _ _ _ _ n1 n5 h0 hv i0 in_ (by omega) (by omega)).mono ?_); rintro e w' ⟨rfl, hb⟩; have hL := chain (B := w.heap.size) (a := w) (by go_grown) (Nat.le_refl _) hb; (first | replace k0 := keepAt hb k0 | replace k0 := keepAt hb (C2.alloc k0 _)); clear hb)))
        go_wp2_with fail
        go_ret
        exact ⟨by rw [hz.out]; rfl, hL⟩
      · have hz : Hid (slopeZ n v i = -1) := by unfold Hid slopeZ; rw [hq, hr, hs]; rfl
        go_enter Try.func43, Try.ntmps43
        go_wp2_with fail
        go_region_held3 (fun w' => C2 w' w.heap.size (.int .i64 n) (.int .i64 v)) (exact k0) (((go_at_call 67; (with_reducible refine (l01Part_any _ _ _ _ _ n1 n5 h0 hv i0 in_ (by omega) (by omega)).mono ?_); rintro e w' ⟨rfl, hb⟩; have hL := chain (B := w.heap.size) (a := w) (by go_grown) (Nat.le_refl _) hb; (first | replace k0 := keepAt hb k0 | replace k0 := keepAt hb (C2.alloc k0 _)); clear hb)))
        go_wp2_with fail
        go_ret
        exact ⟨by rw [hz.out]; rfl, hL⟩
    · have hz : Hid (slopeZ n v i = 1) := by unfold Hid slopeZ; rw [hq, hr]; rfl
      go_enter Try.func43, Try.ntmps43
      go_wp2_with fail
      go_region_held3 (fun w' => C2 w' w.heap.size (.int .i64 n) (.int .i64 v)) (exact k0) (((go_at_call 67; (with_reducible refine (l01Part_any _ _ _ _ _ n1 n5 h0 hv i0 in_ (by omega) (by omega)).mono ?_); rintro e w' ⟨rfl, hb⟩; have hL := chain (B := w.heap.size) (a := w) (by go_grown) (Nat.le_refl _) hb; (first | replace k0 := keepAt hb k0 | replace k0 := keepAt hb (C2.alloc k0 _)); clear hb)))
      go_wp2_with fail
      go_ret
      exact ⟨by rw [hz.out]; rfl, hL⟩
  · have hz : Hid (slopeZ n v i = 0) := by unfold Hid slopeZ; rw [hq]; rfl
    go_enter Try.func43, Try.ntmps43
    go_wp2_with fail
    go_region_held3 (fun w' => C2 w' w.heap.size (.int .i64 n) (.int .i64 v)) (exact k0) (((go_at_call 67; (with_reducible refine (l01Part_any _ _ _ _ _ n1 n5 h0 hv i0 in_ (by omega) (by omega)).mono ?_); rintro e w' ⟨rfl, hb⟩; have hL := chain (B := w.heap.size) (a := w) (by go_grown) (Nat.le_refl _) hb; (first | replace k0 := keepAt hb k0 | replace k0 := keepAt hb (C2.alloc k0 _)); clear hb)))
    go_wp2_with fail
    go_ret
    exact ⟨by rw [hz.out]; rfl, hL⟩

/-- the slopes of the inputs below k -/
def sloTo (n v : Int) (k : Nat) : List Int := (List.range k).map fun (j : Nat) => slopeZ n v (j : Int)
theorem sloTo_len (n v : Int) (k : Nat) : (sloTo n v k).length = k := by simp [sloTo]
theorem sloTo_succ (n v : Int) (k : Nat) : sloTo n v (k + 1) = sloTo n v k ++ [slopeZ n v (k : Int)] := by simp [sloTo, List.range_succ]
def sloOf (n v : Int) : List Int := if isTab n v = true then sloTo n v n.toNat else []
def tabCodeS (n v : Int) : Int := if isTab n v = true then 0 else 1
theorem sloOf_len (n v : Int) : (sloOf n v).length ≤ 1000 := by
  unfold sloOf
  split
  · rename_i h
    obtain ⟨h1, h5, _, _⟩ := tab_bd h
    rw [sloTo_len]; omega
  · simp

set_option maxRecDepth 100000 in
set_option maxHeartbeats 1000000 in
theorem sSlopesOf_any (n v : Int) (w : World) :
    Calls Try.prog 19 #[.agg #[.int .i64 n, .int .i64 v]] w fun e w' => ∃ u, e = .returned (.tuple #[u, .int .i64 (tabCodeS n v)]) ∧ Owns w' w.heap.size u (sloOf n v) ∧ Below w.heap.size w w' := by
  have k0 := C2.here w (.int .i64 n) (.int .i64 v) 27
  by_cases ht : isTab n v = true
  · obtain ⟨n1, n5, h0, hv⟩ := tab_bd ht
    have hr : Hid (sloOf n v = sloTo n v n.toNat) := by unfold Hid sloOf; rw [if_pos ht]
    have hr2 : Hid (tabCodeS n v = 0) := by unfold Hid tabCodeS; rw [if_pos ht]
    have Ht := Lib.hid ht
    clear ht
    obtain ⟨i0, hi, hz0, hz1, hz2⟩ := info_parts info64
    go_enter Try.func19, Try.ntmps19
    go_wp2_with ((go_at_call 39; (with_reducible refine (l01Is_b _ _ _ Ht.out).mono ?_); rintro e w' ⟨rfl, hb⟩; have hL := chain (B := w.heap.size) (a := w) (by go_grown) (Nat.le_refl _) hb; (first | replace k0 := keepAt hb k0 | replace k0 := keepAt hb (C2.alloc k0 _)); clear hb))
    have hz0' := k0.2.2.2.2
    go_loopw [4, 5] (fun u c wr => ∃ k : Nat, (k : Int) ≤ n ∧ c = .int .i64 (k : Int) ∧ Below w.heap.size w wr ∧ C2 wr w.heap.size (.int .i64 n) (.int .i64 v) ∧ Owns wr (w.heap.size + 1) u (sloTo n v k))
      (fun _ c _ => (n - intOf c).toNat)
    case atStart =>
      refine ⟨0, by omega, rfl, by go_grown, k0.alloc _, ?_⟩
      exact World.ownsRow_made (base := w.heap.size + 1) (e := 2) (size := 1) w' #[] 0 (by omega) (by simp) rfl
    case round =>
      clear k0 hL
      obtain ⟨k, hk, rfl, hL, k0, oo⟩ := hrel
      have z0 := k0.2.2.2.2
      by_cases hlt : (k : Int) < n
      · have Hl := Lib.hid (sloTo_len n v k)
        have Hn := Lib.hid (sloTo_succ n v k)
        go_wp2_with (first | (go_at_call 43; (with_reducible refine (l01Slope_any _ _ _ _ n1 n5 h0 hv (by omega) hlt).mono ?_); rintro e w' ⟨rfl, hb⟩; have hL := chain (B := w.heap.size) (a := w) (by go_grown) (Nat.le_refl _) hb; (first | replace k0 := keepAt hb k0 | replace k0 := keepAt hb (C2.alloc k0 _)); replace oo := ownsKeepAt hb oo; clear hb) | (at_builtin; refine wpList_append_own _ rfl _ _ 24 rfl (w.heap.size + 1) 2 i0 (.int .i64 0) 1 8 Try.underlying24 hi hz0 hz1 hz2 rfl (by decide) _ _ _ rfl (World.ownsRow.alloc oo _) ⟨w'.heap.size, 0, none⟩ 1 1 [.int .i64 (slopeZ n v (k : Int))] rfl rfl (cell_one_new _ _ _) (by simp [Value.oneCell']) (by have := Hl.out; unfold maxLen; omega) (by have := Hl.out; omega) (by have := hL.size; have := k0.2.2.2.2; simp; omega) ?_; intro v' w1 hown' hgrow hnil))
        have hz' := hL.size
        have ho' := oo.notBlock (b := w.heap.size) (by omega)
        have hfrom := oo.rowsFrom (B := w.heap.size) (by omega)
        exact ⟨⟨k + 1, by omega, by go_num, (hL.alloc (by omega) _).grown hgrow (by simp; omega) hfrom, (k0.alloc _).grown hgrow ho', by rw [Hn.out]; exact Owns.snoc hown'⟩, by simp [intOf]; omega⟩
      · have Hk : Hid ((k : Nat) = n.toNat) := by unfold Hid; omega
        go_wp2_with fail
        go_ret2
        exact ⟨_, by rw [hr2.out]; rfl, by rw [hr.out, ← Hk.out]; exact oo.mono (by omega), hL⟩
  · have hr : Hid (sloOf n v = []) := by unfold Hid sloOf; rw [if_neg ht]
    have hr2 : Hid (tabCodeS n v = 1) := by unfold Hid tabCodeS; rw [if_neg ht]
    have Ht : Hid (isTab n v = false) := by unfold Hid; simpa using ht
    clear ht
    go_enter Try.func19, Try.ntmps19
    go_wp2_with (first | (go_at_call 39; (with_reducible refine (l01Is_b _ _ _ Ht.out).mono ?_); rintro e w' ⟨rfl, hb⟩; have hL := chain (B := w.heap.size) (a := w) (by go_grown) (Nat.le_refl _) hb; (first | replace k0 := keepAt hb k0 | replace k0 := keepAt hb (C2.alloc k0 _)); clear hb))
    go_ret2
    exact ⟨_, by rw [hr2.out]; rfl, by rw [hr.out]; exact World.ownsRow_nil _ _ _ _, hL⟩

end Go.Proofs.Ytgcdpbikeimelab
