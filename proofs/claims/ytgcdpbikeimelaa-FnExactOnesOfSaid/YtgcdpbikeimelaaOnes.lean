/- OnesOf: the program's and the model's. -/
import Derived.Test.YtgcdpbikeimelaaSl
import Derived.Test.YtgcdpbikeimelaaAt
import Derived.Deep.RegionHeld3
import Derived.Deep.DeepCutAuto
import Derived.Deep.RegionWith
namespace Go.Proofs.Ytgcdpbikeimelaa
open Go.RowKit
set_option linter.unusedVariables false

/-- the rows below k whose value is 1 -/
def onesTo (v : Int) (k : Nat) : List Int := ((List.range k).filter fun j => dig v.toNat j == 1).map fun (j : Nat) => (j : Int)
theorem onesTo_hit (v : Int) (k : Nat) (h : dig v.toNat k = 1) : onesTo v (k + 1) = onesTo v k ++ [(k : Int)] := by
  simp [onesTo, List.range_succ, h]
theorem onesTo_miss (v : Int) (k : Nat) (h : dig v.toNat k ≠ 1) : onesTo v (k + 1) = onesTo v k := by
  simp [onesTo, List.range_succ, h]
theorem onesTo_len (v : Int) (k : Nat) : (onesTo v k).length ≤ k := by
  have := List.length_filter_le (fun j => dig v.toNat j == 1) (List.range k)
  simpa [onesTo] using this

theorem info64 : (Try.prog.info? 2).map (fun i => (i.zero, i.size, i.bytes)) = some (some (.int .i64 0), 1, 8) := by kernel_rfl

theorem C2.grown {w w1 : World} {b : Nat} {x y : Value} {row : Option Nat} (h : C2 w b x y) (hg : w.grownBy w1 row) (hr : row ≠ some b) : C2 w1 b x y := by
  obtain ⟨h0, h1, f0, f1, hz⟩ := h
  have e := hg.block b hz (Ne.symm hr)
  have := hg.size
  exact ⟨(World.cell?_of_block (w := w) e).trans h0, (World.cell?_of_block (w := w) e).trans h1, (World.frozen?_of_block (w := w) e).trans f0, (World.frozen?_of_block (w := w) e).trans f1, by omega⟩
theorem Owns.notBlock {w : World} {base b : Nat} {v : Value} {xs : List Int} (h : Owns w base v xs) (hb : b < base) : v.ownBlock ≠ some b := fun e => by
  have := (World.ownsRow.lt h b e).1
  omega
theorem Owns.rowsFrom {w : World} {base B : Nat} {v : Value} {xs : List Int} (h : Owns w base v xs) (hB : B ≤ base) : ∀ k, v.ownBlock = some k → B ≤ k := fun k e => Nat.le_trans hB (World.ownsRow.lt h k e).1
theorem Owns.snoc {w : World} {base : Nat} {v : Value} {xs : List Int} {x : Int} (h : w.ownsRow base 2 1 v (xs.length + 1) (xs.map (Value.int .i64) ++ [.int .i64 x])) : Owns w base v (xs ++ [x]) := by
  unfold Owns
  rw [List.length_append, List.length_singleton, List.map_append]
  exact h

set_option maxRecDepth 100000 in
set_option maxHeartbeats 1000000 in
theorem l01Ones_any (n v : Int) (w : World) (n1 : 1 ≤ n) (n5 : n ≤ 5) (h0 : 0 ≤ v) (hv : v < 9223372036854775808) :
    Calls Try.prog 48 #[.agg #[.int .i64 n, .int .i64 v]] w fun e w' => ∃ u, e = .returned u ∧ Owns w' w.heap.size u (onesTo v (2 ^ n.toNat)) ∧ Below w.heap.size w w' := by
  obtain ⟨i0, hi, hz0, hz1, hz2⟩ := info_parts info64
  have Hr : Hid (rcZ n = ((2 ^ n.toNat : Nat) : Int)) := rfl
  have hr := rcZ_bd n1 n5
  have k0 := C2.here w (.int .i64 n) (.int .i64 v) 25
  have oo : Owns ((w.alloc (.cells #[.int .i64 n, .int .i64 v] 25)).alloc (.cells #[] 2)) (w.heap.size + 1) (.slice (some ⟨w.heap.size + 1, 0, none⟩) 0 0) (onesTo v 0) := by
    have := World.ownsRow_made (base := w.heap.size + 1) (e := 2) (size := 1) (w.alloc (.cells #[.int .i64 n, .int .i64 v] 25)) #[] 0 (by simp) (by simp) rfl
    simp only [World.size_alloc] at this
    exact this
  go_enter Try.func48, Try.ntmps48
  go_wp2_with fail
  go_loopw [3, 4] (fun u c wr => ∃ k : Nat, (k : Int) ≤ rcZ n ∧ c = .int .i64 (k : Int) ∧ Below w.heap.size w wr ∧ C2 wr w.heap.size (.int .i64 n) (.int .i64 v) ∧ Owns wr (w.heap.size + 1) u (onesTo v k))
    (fun _ c _ => (rcZ n - intOf c).toNat)
  case atStart => exact ⟨0, by omega, rfl, by go_grown, k0.alloc _, oo⟩
  case round =>
    clear k0 oo
    obtain ⟨k, hk, rfl, hL, k0, oo⟩ := hrel
    have z0 := k0.2.2.2.2
    by_cases hlt : (k : Int) < rcZ n
    · by_cases hd : dig v.toNat k = 1
      · have hd1 : (digZ v (k : Int) == 1) = true := by simp [digZ, hd]
        have Hn := Lib.hid (onesTo_hit v k hd)
        have Hl := Lib.hid (onesTo_len v k)
        clear hd
        have zz := k0.2.2.2.2
        go_wp2_with (first | (go_at_call 43; (with_reducible refine (l01Rows_any _ _ n1 n5).mono ?_); rintro e w' ⟨rfl, rfl⟩) | (go_at_call 44; (with_reducible refine (l01At_any _ _ _ _ h0 hv (by omega) (by omega)).mono ?_); rintro e w' ⟨rfl, hb⟩; have hL := chain (B := w.heap.size) (a := w) (by go_grown) (Nat.le_refl _) hb; (first | replace k0 := keepAt hb k0 | replace k0 := keepAt hb (C2.alloc k0 _)); replace oo := Owns.keep oo hb; clear hb) | (at_builtin; refine wpList_append_own _ rfl _ _ 31 rfl (w.heap.size + 1) 2 i0 (.int .i64 0) 1 8 Try.underlying31 hi hz0 hz1 hz2 rfl (by decide) _ _ _ rfl (World.ownsRow.alloc oo _) ⟨w'.heap.size, 0, none⟩ 1 1 [.int .i64 (k : Int)] rfl rfl (cell_one_new _ _ _) (by simp [Value.oneCell']) (by have := Hl.out; unfold maxLen; omega) (by have := Hl.out; omega) (by have := hL.size; have := k0.2.2.2.2; simp; omega) ?_; intro v' w1 hown' hgrow hnil))
        have hz' := hL.size
        have ho' := oo.notBlock (b := w.heap.size) (by omega)
        have hfrom := oo.rowsFrom (B := w.heap.size) (by omega)
        exact ⟨⟨k + 1, by omega, by go_num, (hL.alloc (by omega) _).grown hgrow (by simp; omega) hfrom, (k0.alloc _).grown hgrow ho', by rw [Hn.out]; exact Owns.snoc hown'⟩, by simp [intOf]; omega⟩
      · have hd1 : (digZ v (k : Int) == 1) = false := by
          have := dig_lt v.toNat k
          have e : dig v.toNat k = 0 := by omega
          simp [digZ, e]
        have Hn := Lib.hid (onesTo_miss v k hd)
        clear hd
        go_wp2_with (first | (go_at_call 43; (with_reducible refine (l01Rows_any _ _ n1 n5).mono ?_); rintro e w' ⟨rfl, rfl⟩) | (go_at_call 44; (with_reducible refine (l01At_any _ _ _ _ h0 hv (by omega) (by omega)).mono ?_); rintro e w' ⟨rfl, hb⟩; have hL := chain (B := w.heap.size) (a := w) (by go_grown) (Nat.le_refl _) hb; (first | replace k0 := keepAt hb k0 | replace k0 := keepAt hb (C2.alloc k0 _)); replace oo := Owns.keep oo hb; clear hb))
        exact ⟨⟨k + 1, by omega, by go_num, by go_grown, k0, by rw [Hn.out]; exact oo⟩, by simp [intOf]; omega⟩
    · have Hk : Hid ((k : Nat) = 2 ^ n.toNat) := by have := Hr.out; unfold Hid; omega
      go_wp2_with ((go_at_call 43; (with_reducible refine (l01Rows_any _ _ n1 n5).mono ?_); rintro e w' ⟨rfl, rfl⟩))
      go_ret
      exact ⟨_, rfl, by rw [← Hk.out]; exact oo.mono (by omega), hL⟩

/-- what OnesOf gives beside its list: the code -/
def onesOf (n v : Int) : List Int := if isTab n v = true then onesTo v (2 ^ n.toNat) else []
def tabCode (n v : Int) : Int := if isTab n v = true then 0 else 1

theorem sOnesOf_any (n v : Int) (w : World) :
    Calls Try.prog 18 #[.agg #[.int .i64 n, .int .i64 v]] w fun e w' => ∃ u, e = .returned (.tuple #[u, .int .i64 (tabCode n v)]) ∧ Owns w' w.heap.size u (onesOf n v) ∧ Below w.heap.size w w' := by
  have k0 := C2.here w (.int .i64 n) (.int .i64 v) 25
  by_cases ht : isTab n v = true
  · obtain ⟨n1, n5, h0, hv⟩ := tab_bd ht
    have hr : Hid (onesOf n v = onesTo v (2 ^ n.toNat)) := by unfold Hid onesOf; rw [if_pos ht]
    have hr2 : Hid (tabCode n v = 0) := by unfold Hid tabCode; rw [if_pos ht]
    have Ht := Lib.hid ht
    clear ht
    go_enter Try.func18, Try.ntmps18
    go_wp2_with (first | (go_at_call 39; (with_reducible refine (l01Is_b _ _ _ Ht.out).mono ?_); rintro e w' ⟨rfl, hb⟩; have hL := chain (B := w.heap.size) (a := w) (by go_grown) (Nat.le_refl _) hb; (first | replace k0 := keepAt hb k0 | replace k0 := keepAt hb (C2.alloc k0 _)); clear hb))
    refine (l01Ones_any n v _ n1 n5 h0 hv).mono ?_
    rintro e w1 ⟨u, rfl, oo, hb⟩
    have hz := hL.size
    have hL2 := chain (B := w.heap.size) (a := w) (by go_grown) (Nat.le_refl _) hb
    go_wp2_with fail
    go_ret2
    exact ⟨u, by rw [hr2.out]; rfl, by rw [hr.out]; exact oo.mono hz, hL2⟩
  · have hr : Hid (onesOf n v = []) := by unfold Hid onesOf; rw [if_neg ht]
    have hr2 : Hid (tabCode n v = 1) := by unfold Hid tabCode; rw [if_neg ht]
    have Ht : Hid (isTab n v = false) := by unfold Hid; simpa using ht
    clear ht
    go_enter Try.func18, Try.ntmps18
    go_wp2_with (first | (go_at_call 39; (with_reducible refine (l01Is_b _ _ _ Ht.out).mono ?_); rintro e w' ⟨rfl, hb⟩; have hL := chain (B := w.heap.size) (a := w) (by go_grown) (Nat.le_refl _) hb; (first | replace k0 := keepAt hb k0 | replace k0 := keepAt hb (C2.alloc k0 _)); clear hb))
    go_ret2
    exact ⟨_, by rw [hr2.out]; rfl, by rw [hr.out]; exact World.ownsRow_nil _ _ _ _, hL⟩

set_option maxRecDepth 100000 in
set_option maxHeartbeats 1000000 in
theorem iOnesOf_any (n v : Int) (w : World) :
    Calls Try.prog 19 #[.agg #[.int .i64 n, .int .i64 v]] w fun e w' => ∃ u, e = .returned (.tuple #[u, .int .i64 (tabCode n v)]) ∧ Owns w' w.heap.size u (onesOf n v) ∧ Below w.heap.size w w' := by
  have k0 := C2.here w (.int .i64 n) (.int .i64 v) 25
  by_cases ht : isTab n v = true
  · obtain ⟨n1, n5, h0, hv⟩ := tab_bd ht
    have hr : Hid (onesOf n v = onesTo v (2 ^ n.toNat)) := by unfold Hid onesOf; rw [if_pos ht]
    have hr2 : Hid (tabCode n v = 0) := by unfold Hid tabCode; rw [if_pos ht]
    have Ht := Lib.hid ht
    clear ht
    obtain ⟨i0, hi, hz0, hz1, hz2⟩ := info_parts info64
    have Hr : Hid (rcZ n = ((2 ^ n.toNat : Nat) : Int)) := rfl
    have hrn := rcZ_bd n1 n5
    go_enter Try.func19, Try.ntmps19
    go_wp2_with (first | (go_at_call 15; (with_reducible refine (isTable_b _ _ _ Ht.out).mono ?_); rintro e w' ⟨rfl, hb⟩; have hL := chain (B := w.heap.size) (a := w) (by go_grown) (Nat.le_refl _) hb; (first | replace k0 := keepAt hb k0 | replace k0 := keepAt hb (C2.alloc k0 _)); clear hb) | (go_at_call 46; (with_reducible refine (rowCount_any _ _ n1 n5).mono ?_); rintro e w' ⟨rfl, rfl⟩))
    have hz0' := k0.2.2.2.2
    go_loopw [4, 12] (fun u c wr => ∃ k : Nat, (k : Int) ≤ rcZ n ∧ c = .int .i64 (k : Int) ∧ Below w.heap.size w wr ∧ C2 wr w.heap.size (.int .i64 n) (.int .i64 v) ∧ Owns wr (w.heap.size + 1) u (onesTo v k))
      (fun _ c _ => (rcZ n - intOf c).toNat)
    case atStart => exact ⟨0, by omega, rfl, hL, k0, World.ownsRow_nil _ _ _ _⟩
    case round =>
      clear k0 hL
      obtain ⟨k, hk, rfl, hL, k0, oo⟩ := hrel
      have z0 := k0.2.2.2.2
      by_cases hlt : (k : Int) < rcZ n
      · by_cases hd : dig v.toNat k = 1
        · have hd1 : (digZ v (k : Int) == 1) = true := by simp [digZ, hd]
          have Hn := Lib.hid (onesTo_hit v k hd)
          have Hl := Lib.hid (onesTo_len v k)
          clear hd
          go_wp2_with (first | (go_at_call 47; (with_reducible refine (valueAt_any _ _ _ _ h0 hv (by omega) (by omega)).mono ?_); rintro e w' ⟨rfl, hb⟩; have hL := chain (B := w.heap.size) (a := w) (by go_grown) (Nat.le_refl _) hb; (first | replace k0 := keepAt hb k0 | replace k0 := keepAt hb (C2.alloc k0 _)); replace oo := Owns.keep oo hb; clear hb) | (at_builtin; refine wpList_append_own _ rfl _ _ 31 rfl (w.heap.size + 1) 2 i0 (.int .i64 0) 1 8 Try.underlying31 hi hz0 hz1 hz2 rfl (by decide) _ _ _ rfl (World.ownsRow.alloc oo _) ⟨w'.heap.size, 0, none⟩ 1 1 [.int .i64 (k : Int)] rfl rfl (cell_one_new _ _ _) (by simp [Value.oneCell']) (by have := Hl.out; unfold maxLen; omega) (by have := Hl.out; omega) (by have := hL.size; have := k0.2.2.2.2; simp; omega) ?_; intro v' w1 hown' hgrow hnil))
          have hz' := hL.size
          have ho' := oo.notBlock (b := w.heap.size) (by omega)
          have hfrom := oo.rowsFrom (B := w.heap.size) (by omega)
          exact ⟨⟨k + 1, by omega, by go_num, (hL.alloc (by omega) _).grown hgrow (by simp; omega) hfrom, (k0.alloc _).grown hgrow ho', by rw [Hn.out]; exact Owns.snoc hown'⟩, by simp [intOf]; omega⟩
        · have hd1 : (digZ v (k : Int) == 1) = false := by
            have := dig_lt v.toNat k
            have e : dig v.toNat k = 0 := by omega
            simp [digZ, e]
          have Hn := Lib.hid (onesTo_miss v k hd)
          clear hd
          go_wp2_with (first | (go_at_call 47; (with_reducible refine (valueAt_any _ _ _ _ h0 hv (by omega) (by omega)).mono ?_); rintro e w' ⟨rfl, hb⟩; have hL := chain (B := w.heap.size) (a := w) (by go_grown) (Nat.le_refl _) hb; (first | replace k0 := keepAt hb k0 | replace k0 := keepAt hb (C2.alloc k0 _)); replace oo := Owns.keep oo hb; clear hb))
          exact ⟨⟨k + 1, by omega, by go_num, by go_grown, k0, by rw [Hn.out]; exact oo⟩, by simp [intOf]; omega⟩
      · have Hk : Hid ((k : Nat) = 2 ^ n.toNat) := by have := Hr.out; unfold Hid; omega
        go_wp2_with fail
        go_ret2
        exact ⟨_, by rw [hr2.out]; rfl, by rw [hr.out, ← Hk.out]; exact oo.mono (by omega), hL⟩
  · have hr : Hid (onesOf n v = []) := by unfold Hid onesOf; rw [if_neg ht]
    have hr2 : Hid (tabCode n v = 1) := by unfold Hid tabCode; rw [if_neg ht]
    have Ht : Hid (isTab n v = false) := by unfold Hid; simpa using ht
    clear ht
    go_enter Try.func19, Try.ntmps19
    go_wp2_with (first | (go_at_call 15; (with_reducible refine (isTable_b _ _ _ Ht.out).mono ?_); rintro e w' ⟨rfl, hb⟩; have hL := chain (B := w.heap.size) (a := w) (by go_grown) (Nat.le_refl _) hb; (first | replace k0 := keepAt hb k0 | replace k0 := keepAt hb (C2.alloc k0 _)); clear hb))
    go_ret2
    exact ⟨_, by rw [hr2.out]; rfl, by rw [hr.out]; exact World.ownsRow_nil _ _ _ _, hL⟩

end Go.Proofs.Ytgcdpbikeimelaa
