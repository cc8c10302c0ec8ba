/- DualOf: plain numbers, and the program's. -/
import Derived.Test.YtgcdpbikeimelaaOpp
import Derived.Test.YtgcdpbikeimelaaSPart
namespace Go.Proofs.Ytgcdpbikeimelaa
open Go.RowKit
set_option linter.unusedVariables false

theorem build_not (f : Nat → Nat) (N : Nat) : build (fun j => 1 - f j % 2) N = 2 ^ N - 1 - build f N := by
  induction N with
  | zero => rfl
  | succ k ih =>
    have h1 := build_lt f k
    have h01 : f k % 2 = 0 ∨ f k % 2 = 1 := by omega
    simp only [build, ih, Nat.pow_succ]
    rcases h01 with e | e <;> simp [e] <;> omega

/-- the row on the other side -/
def dualRow (n k : Int) : Int := rcZ n - 1 - k
/-- the values of the dual table -/
def dualVals (n v : Int) : Int := buildZ (fun j => 1 - dig v.toNat (dualRow n j).toNat) (2 ^ n.toNat)
theorem dual_opp (n v : Int) : fullZ n - buildZ (fun j => dig v.toNat (dualRow n j).toNat) (2 ^ n.toNat) = dualVals n v := by
  unfold dualVals buildZ fullZ
  have h := build_not (fun j => dig v.toNat (dualRow n j).toNat) (2 ^ n.toNat)
  simp only [dig_mod] at h
  rw [h]
  have := build_lt (fun j => dig v.toNat (dualRow n j).toNat) (2 ^ n.toNat)
  omega
/-- what DualOf gives -/
def dualRes (n v : Int) : Value := if isTab n v = true then .tuple #[.agg #[.int .i64 n, .int .i64 (dualVals n v)], .int .i64 0] else .tuple #[.agg #[.int .i64 0, .int .i64 0], .int .i64 1]
theorem dualRes_cases (n v : Int) : ∃ a b c : Int, dualRes n v = .tuple #[.agg #[.int .i64 a, .int .i64 b], .int .i64 c] := by
  unfold dualRes; split <;> exact ⟨_, _, _, rfl⟩

theorem dualClos_any (n k : Int) (bi : Nat) (w : World) (n1 : 1 ≤ n) (n5 : n ≤ 5) (k0 : 0 ≤ k) (k5 : k ≤ 32) (hi : w.cell? ⟨bi, 0, none⟩ = some (.int .i64 (rcZ n - 1))) :
    Calls Try.prog 54 #[.int .i64 k, .pointer (some ⟨bi, 0, none⟩)] w fun e w' => e = .returned (.int .i64 (rcZ n - 1 - k)) ∧ Below w.heap.size w w' := by
  have hr := rcZ_bd n1 n5
  go_enter Try.func54, Try.ntmps54
  go_wp2
  go_ret
  exact ⟨rfl, Below.refl _ _⟩

set_option maxRecDepth 100000 in
set_option maxHeartbeats 1000000 in
theorem iDualOf_any (n v : Int) (w : World) :
    Calls Try.prog 30 #[.agg #[.int .i64 n, .int .i64 v]] w fun e w' => e = .returned (dualRes n v) ∧ Below w.heap.size w w' := by
  have k0 : C2 ((w.alloc (.cells #[.int .i64 n, .int .i64 v] 25)).alloc (.cells #[.int .i64 0, .int .i64 0] 25)) (w.heap.size) (.int .i64 n) (.int .i64 v) := by simpa using (C2.here w (.int .i64 n) (.int .i64 v) 25).alloc (.cells #[.int .i64 0, .int .i64 0] 25)
  have k1 : C2 ((w.alloc (.cells #[.int .i64 n, .int .i64 v] 25)).alloc (.cells #[.int .i64 0, .int .i64 0] 25)) (w.heap.size + 1) (.int .i64 0) (.int .i64 0) := by simpa using C2.here (w.alloc (.cells #[.int .i64 n, .int .i64 v] 25)) (.int .i64 0) (.int .i64 0) 25
  by_cases ht : isTab n v = true
  · obtain ⟨n1, n5, h0, hv⟩ := tab_bd ht
    have hr : Hid (dualRes n v = .tuple #[.agg #[.int .i64 n, .int .i64 (dualVals n v)], .int .i64 0]) := by unfold Hid dualRes; rw [if_pos ht]
    have Ht := Lib.hid ht
    clear ht
    have T := fun (wx : World) (bi : Nat) => tableFrom_any n v n 54 #[.pointer (some ⟨bi, 0, none⟩)] (fun j => (dualRow n j).toNat) wx h0 hv n1 n5
    have HT := Lib.hid T
    clear T
    have hrn := rcZ_bd n1 n5
    have Hr : Hid (rcZ n = ((2 ^ n.toNat : Nat) : Int)) := rfl
    have hw : wrap64 (rcZ n - 1) = rcZ n - 1 := IntWalk.wrap64_in _ (by omega)
    have hbv := buildZ_bd (fun j => dig v.toNat (dualRow n j).toNat) (k := 2 ^ n.toNat) (by have := Hr.out; omega)
    have hbf : Hid (buildZ (fun j => dig v.toNat (dualRow n j).toNat) (2 ^ n.toNat) ≤ fullZ n) := by
      have := build_lt (fun j => dig v.toNat (dualRow n j).toNat) (2 ^ n.toNat)
      unfold Hid buildZ fullZ; omega
    have Hd := Lib.hid (dual_opp n v)
    have Hv0 := Lib.hid hbv.1
    clear hbv
    go_enter Try.func30, Try.ntmps30
    go_wp2_with (first | (go_at_call 15; (with_reducible refine (isTable_b _ _ _ Ht.out).mono ?_); rintro e w' ⟨rfl, hb⟩; have hL := chain (B := w.heap.size) (a := w) (by go_grown) (Nat.le_refl _) hb; (first | replace k0 := keepAt hb k0 | replace k0 := keepAt hb (C2.alloc k0 _)); (first | replace k1 := keepAt hb k1 | replace k1 := keepAt hb (C2.alloc k1 _)); clear hb) | (go_at_call 46; (with_reducible refine (rowCount_any _ _ n1 n5).mono ?_); rintro e w' ⟨rfl, rfl⟩))
    have z1 := k1.2.2.2.2
    replace k1 := k1.alloc (.cells #[.int .i64 (rcZ n - 1)] 2)
    have c2 : (w'.alloc (.cells #[.int .i64 (rcZ n - 1)] 2)).cell? ⟨w'.heap.size, 0, none⟩ = some (.int .i64 (rcZ n - 1)) := by rw [World.cell?_alloc_at _ _ _ _ rfl]; rfl
    refine (HT.out _ _ ?_ ?_ (enters_of Try.func54 (by kernel_rfl) rfl)).mono ?_
    · intro k wx hk hb
      have hk' : (k : Int) < rcZ n := by have := Hr.out; omega
      refine (dualClos_any n k _ wx n1 n5 (by omega) (by omega) (cell_later hb c2)).mono ?_
      rintro e w' ⟨rfl, hb'⟩
      exact ⟨by rw [Int.toNat_of_nonneg (by unfold dualRow; omega)]; rfl, hb'⟩
    · intro k hk
      show (dualRow n k).toNat ≤ 62
      unfold dualRow; omega
    rintro e w1 ⟨rfl, hb⟩
    have hL := chain (B := w.heap.size) (a := w) (by go_grown) (Nat.le_refl _) hb
    replace k1 := keepAt hb k1
    clear hb c2
    go_wp2_with ((go_at_call 51; (with_reducible refine (opposite_any _ _ _ n1 n5 Hv0.out hbf.out).mono ?_); rintro e w' ⟨rfl, hb⟩; have hL := chain (B := w.heap.size) (a := w) (by go_grown) (Nat.le_refl _) hb; (first | replace k1 := keepAt hb k1 | replace k1 := keepAt hb (C2.alloc k1 _)); clear hb))
    refine bodyPost_ret (v := .tuple #[.agg #[.int .i64 n, .int .i64 (fullZ n - buildZ (fun j => dig v.toNat (dualRow n (j : Int)).toNat) (2 ^ n.toNat))], .int .i64 0]) (by simp [results, Try.results30, go_sem, *]) rfl ?_
    exact ⟨by rw [hr.out, Hd.out], by go_grown⟩
  · have hr : Hid (dualRes n v = .tuple #[.agg #[.int .i64 0, .int .i64 0], .int .i64 1]) := by unfold Hid dualRes; rw [if_neg ht]
    have Ht : Hid (isTab n v = false) := by unfold Hid; simpa using ht
    clear ht
    go_enter Try.func30, Try.ntmps30
    go_wp2_with (first | (go_at_call 15; (with_reducible refine (isTable_b _ _ _ Ht.out).mono ?_); rintro e w' ⟨rfl, hb⟩; have hL := chain (B := w.heap.size) (a := w) (by go_grown) (Nat.le_refl _) hb; (first | replace k0 := keepAt hb k0 | replace k0 := keepAt hb (C2.alloc k0 _)); (first | replace k1 := keepAt hb k1 | replace k1 := keepAt hb (C2.alloc k1 _)); clear hb))
    refine bodyPost_ret (v := .tuple #[.agg #[.int .i64 0, .int .i64 0], .int .i64 1]) (by simp [results, Try.results30, go_sem, *]) rfl ?_
    exact ⟨by rw [hr.out], by go_grown⟩

end Go.Proofs.Ytgcdpbikeimelaa
