/- IsImplied, RowsCovered: both contracts. -/
import Derived.Test.YtohmhiodmaahfaaDoorPatQ
import Derived.Test.YtohmhiodmaahfaaDoorPatS
import Derived.Test.YtohmhiodmaahfaaDoorSets
import Derived.Test.YtohmhiodmaahfaaDoorIn
import Derived.Deep.RegionWith
namespace Go.Proofs.YtohmhiodmaahfaaDoor
open Go.RowKit
set_option linter.unusedVariables false

/-- what IsImplied gives -/
def imp (n v : Int) (s : ByteArray) : Bool × Int := if isTab n v = true then if isPat s n = true then (impF v (sgn s) (2 ^ n.toNat), 0) else (false, 2) else (false, 1)
theorem imp_in {n v : Int} {s : ByteArray} (h1 : isTab n v = true) (h2 : isPat s n = true) : imp n v s = (impF v (sgn s) (2 ^ n.toNat), 0) := by unfold imp; rw [if_pos h1, if_pos h2]
theorem imp_out {n v : Int} {s : ByteArray} (h1 : isTab n v = true) (h2 : isPat s n = false) : imp n v s = (false, 2) := by unfold imp; rw [if_pos h1, if_neg (by rw [h2]; decide)]
theorem imp_none {n v : Int} {s : ByteArray} (h1 : isTab n v = false) : imp n v s = (false, 1) := by unfold imp; rw [if_neg (by rw [h1]; decide)]
def resIsImplied_0 (n v : Int) (s : ByteArray) : Bool := (imp n v s).1
def resIsImplied_1 (n v : Int) (s : ByteArray) : Int := (imp n v s).2
theorem isPat_out {s : ByteArray} {n : Int} (h : isPat s n = true) : (s.size : Int) = n ∧ allIn s [45, 48, 49] = true := by
  unfold isPat at h
  rw [Bool.and_eq_true, decide_eq_true_iff] at h
  exact h

set_option maxRecDepth 100000 in
set_option maxHeartbeats 4000000 in
theorem iIsImplied_any (n v : Int) (s : ByteArray) (hs : s.size ≤ 1048576) (w : World) :
    Calls Tryd.prog 13 #[.agg #[.int .i64 n, .int .i64 v], .string s] w fun e w' => e = .returned (.tuple #[.bool (resIsImplied_0 n v s), .int .i64 (resIsImplied_1 n v s)]) ∧ Below w.heap.size w w' := by
  unfold resIsImplied_0 resIsImplied_1
  have k0 := C2.here w (.int .i64 n) (.int .i64 v) 29
  cases ht : isTab n v
  · rw [imp_none ht]
    have HT := Lib.hid (fun w => isTable_b n v w ht)
    clear ht
    go_enter Tryd.func13, Tryd.ntmps13
    go_wp2_with ((go_at_call 38; (with_reducible refine (HT.out _).mono ?_); rintro e w' ⟨rfl, hb⟩; have hL := chain (B := w.heap.size) (a := w) (by go_grown) (Nat.le_refl _) hb; (first | replace k0 := keepAt hb k0 | replace k0 := keepAt hb (C2.alloc k0 _)); clear hb))
    go_ret2
    exact ⟨rfl, hL⟩
  · obtain ⟨n1, n5, v0, v1⟩ := tab_bd ht
    have HT := Lib.hid (fun w => isTable_b n v w ht)
    cases hp : isPat s n
    · rw [imp_out ht hp]
      have HP := Lib.hid (fun w => isPattern_b s hs n w hp)
      clear ht hp
      go_enter Tryd.func13, Tryd.ntmps13
      go_wp2_with (first | (go_at_call 38; (with_reducible refine (HT.out _).mono ?_); rintro e w' ⟨rfl, hb⟩; have hL := chain (B := w.heap.size) (a := w) (by go_grown) (Nat.le_refl _) hb; (first | replace k0 := keepAt hb k0 | replace k0 := keepAt hb (C2.alloc k0 _)); clear hb) | (go_at_call 39; (with_reducible refine (HP.out _).mono ?_); rintro e w' ⟨rfl, hb⟩; have hL := chain (B := w.heap.size) (a := w) (by go_grown) (Nat.le_refl _) hb; (first | replace k0 := keepAt hb k0 | replace k0 := keepAt hb (C2.alloc k0 _)); clear hb))
      go_ret2
      exact ⟨rfl, hL⟩
    · rw [imp_in ht hp]
      have HP := Lib.hid (fun w => isPattern_b s hs n w hp)
      have hz := (isPat_out hp).1
      have HS := Lib.hid (fun w => signsOf_any s (by omega) w)
      have HI := Lib.hid (fun w => isImplied_any n v (sgn s) (sgn_byte s) w n1 n5 v0 v1)
      clear ht hp hz
      generalize patA (sgn s) = A at *
      obtain ⟨R, hR⟩ : ∃ R, impF v (sgn s) (2 ^ n.toNat) = R := ⟨_, rfl⟩
      rw [hR] at HI
      rw [hR]
      clear hR
      go_enter Tryd.func13, Tryd.ntmps13
      go_wp2_with (first | (go_at_call 38; (with_reducible refine (HT.out _).mono ?_); rintro e w' ⟨rfl, hb⟩; have hL := chain (B := w.heap.size) (a := w) (by go_grown) (Nat.le_refl _) hb; (first | replace k0 := keepAt hb k0 | replace k0 := keepAt hb (C2.alloc k0 _)); clear hb) | (go_at_call 39; (with_reducible refine (HP.out _).mono ?_); rintro e w' ⟨rfl, hb⟩; have hL := chain (B := w.heap.size) (a := w) (by go_grown) (Nat.le_refl _) hb; (first | replace k0 := keepAt hb k0 | replace k0 := keepAt hb (C2.alloc k0 _)); clear hb))
      go_region_with (first | (go_at_call 41; (with_reducible refine (HS.out _).mono ?_); rintro e w2 ⟨rfl, hb⟩; replace hL := chain (B := w.heap.size) (a := w) (by first | exact hL | exact Bdrew hL 1 | go_grown) (Nat.le_refl _) hb; replace k0 := keepAt hb k0; clear hb) | (go_at_call 40; (with_reducible refine (HI.out _).mono ?_); rintro e w2 ⟨rfl, hb⟩; replace hL := chain (B := w.heap.size) (a := w) (by first | exact hL | exact Bdrew hL 1 | go_grown) (Nat.le_refl _) hb; clear hb))
      all_goals (go_wp2_with fail)
      all_goals go_ret2
      all_goals exact ⟨rfl, by first | exact hL | exact Bdrew hL 1 | go_grown⟩

set_option maxRecDepth 100000 in
set_option maxHeartbeats 4000000 in
theorem sIsImplied_any (n v : Int) (s : ByteArray) (hs : s.size ≤ 1048576) (w : World) :
    Calls Tryd.prog 11 #[.agg #[.int .i64 n, .int .i64 v], .string s] w fun e w' => e = .returned (.tuple #[.bool (resIsImplied_0 n v s), .int .i64 (resIsImplied_1 n v s)]) ∧ Below w.heap.size w w' := by
  unfold resIsImplied_0 resIsImplied_1
  have k0 := C2.here w (.int .i64 n) (.int .i64 v) 29
  have HP := Lib.hid (fun w => l08Series_any s hs n w)
  cases ht : isTab n v
  · rw [imp_none ht]
    have HT := Lib.hid (fun w => l01Is_b n v w ht)
    clear ht
    go_enter Tryd.func11, Tryd.ntmps11
    go_wp2_with ((go_at_call 35; (with_reducible refine (HT.out _).mono ?_); rintro e w' ⟨rfl, hb⟩; have hL := chain (B := w.heap.size) (a := w) (by go_grown) (Nat.le_refl _) hb; (first | replace k0 := keepAt hb k0 | replace k0 := keepAt hb (C2.alloc k0 _)); clear hb))
    go_ret2
    exact ⟨rfl, hL⟩
  · obtain ⟨n1, n5, v0, v1⟩ := tab_bd ht
    have HT := Lib.hid (fun w => l01Is_b n v w ht)
    cases hp : isPat s n
    · rw [imp_out ht hp]
      rw [hp] at HP
      clear ht hp
      go_enter Tryd.func11, Tryd.ntmps11
      go_wp2_with (first | (go_at_call 35; (with_reducible refine (HT.out _).mono ?_); rintro e w' ⟨rfl, hb⟩; have hL := chain (B := w.heap.size) (a := w) (by go_grown) (Nat.le_refl _) hb; (first | replace k0 := keepAt hb k0 | replace k0 := keepAt hb (C2.alloc k0 _)); clear hb) | (go_at_call 36; (with_reducible refine (HP.out _).mono ?_); rintro e w' ⟨rfl, rfl⟩))
      go_ret2
      exact ⟨rfl, hL⟩
    · rw [imp_in ht hp]
      have hz := (isPat_out hp).1
      have HI := Lib.hid (fun w => l08Implied_any n v s (by omega) (isPat_out hp).2 w n1 n5 v0 v1)
      rw [hp] at HP
      clear ht hp hz
      obtain ⟨R, hR⟩ : ∃ R, impF v (sgn s) (2 ^ n.toNat) = R := ⟨_, rfl⟩
      rw [hR] at HI
      rw [hR]
      clear hR
      go_enter Tryd.func11, Tryd.ntmps11
      go_wp2_with (first | (go_at_call 35; (with_reducible refine (HT.out _).mono ?_); rintro e w' ⟨rfl, hb⟩; have hL := chain (B := w.heap.size) (a := w) (by go_grown) (Nat.le_refl _) hb; (first | replace k0 := keepAt hb k0 | replace k0 := keepAt hb (C2.alloc k0 _)); clear hb) | (go_at_call 36; (with_reducible refine (HP.out _).mono ?_); rintro e w' ⟨rfl, rfl⟩) | (go_at_call 37; (with_reducible refine (HI.out _).mono ?_); rintro e w' ⟨rfl, hb⟩; have hL := chain (B := w.heap.size) (a := w) (by go_grown) (Nat.le_refl _) hb; (first | replace k0 := keepAt hb k0 | replace k0 := keepAt hb (C2.alloc k0 _)); clear hb))
      go_ret2
      exact ⟨rfl, hL⟩

end Go.Proofs.YtohmhiodmaahfaaDoor
