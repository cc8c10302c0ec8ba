/- Circuits copied, weighed, compared, marked, looked at again. -/
import Derived.Test.YtblbapehakcomaaCopy
import Derived.Test.YtblbapehakcomaaIn
import Derived.Deep.RegionWith
namespace Go.Proofs.Ytblbapehakcomaa
open Go.RowKit
set_option linter.unusedVariables false

theorem szCircuit_yes (p : Int) (va : Value) (xs : List Int) (w : World) (ha : Reads w va xs) (hn : (xs.length : Int) ≤ 1048576) :
    Calls Try.prog 15 #[.agg #[.int .i64 p, va], .int .i64 1048576] w fun e w' => e = .returned (.int .i64 (1048576 - (xs.length : Int))) ∧ Below w.heap.size w w' := by
  have HR := Lib.hid (ha.keep ((Below.refl _ _).alloc (Nat.le_refl _) (.cells #[.int .i64 p, va] 24)))
  have hz : szZ 1048576 xs.length = 1048576 - (xs.length : Int) := by unfold szZ; rw [if_neg (by omega)]
  have HZ : Hid (∀ w', Reads w' va xs → Calls Try.prog 51 #[va, .int .i64 1048576] w' fun e w'' => e = .returned (.int .i64 (1048576 - (xs.length : Int))) ∧ w' = w'') := fun w' h => szInt64S_b va xs 1048576 w' h (by omega) (by omega) hz
  obtain ⟨a, ca, rfl, hm, _⟩ := ha
  clear hz
  have h' : ¬ 1048576 - (xs.length : Int) < 0 := by omega
  generalize 1048576 - (xs.length : Int) = z at *
  generalize xs.length = n at *
  go_enter Try.func15, Try.ntmps15
  go_wp2_with (go_at_call 51; (with_reducible refine (HZ.out _ HR.out).mono ?_); rintro e w' ⟨rfl, rfl⟩)
  go_ret
  exact ⟨rfl, by go_grown⟩

theorem szCircuit_z (p : Int) (va : Value) (xs : List Int) (w : World) (ha : Reads w va xs) (hn : (xs.length : Int) ≤ 1048576) {z : Int} (hz : 1048576 - (xs.length : Int) = z) :
    Calls Try.prog 15 #[.agg #[.int .i64 p, va], .int .i64 1048576] w fun e w' => e = .returned (.int .i64 z) ∧ Below w.heap.size w w' := hz ▸ szCircuit_yes p va xs w ha hn

theorem inAt {w w' : World} {lo hi : Nat} {v : Value} {xs : List Int} (hb : Below w.heap.size w w') (h : In w lo hi v xs) : In w' lo hi v xs := h.keep hb
theorem readsAtC {w w' : World} {v : Value} {xs : List Int} (hb : Below w.heap.size w w') (h : Reads w v xs) : Reads w' v xs := h.keep hb

theorem szCircuit_no (p : Int) (va : Value) (xs : List Int) (w : World) (ha : Reads w va xs) (hn : (1048576 : Int) < (xs.length : Int)) :
    Calls Try.prog 15 #[.agg #[.int .i64 p, va], .int .i64 1048576] w fun e w' => e = .returned (.int .i64 (-1)) ∧ Below w.heap.size w w' := by
  have HR := Lib.hid (ha.keep ((Below.refl _ _).alloc (Nat.le_refl _) (.cells #[.int .i64 p, va] 24)))
  have hz : szZ 1048576 xs.length = -1 := by unfold szZ; rw [if_pos (by omega)]
  have HZ : Hid (∀ w', Reads w' va xs → Calls Try.prog 51 #[va, .int .i64 1048576] w' fun e w'' => e = .returned (.int .i64 (-1)) ∧ w' = w'') := fun w' h => szInt64S_b va xs 1048576 w' h (by omega) (by omega) hz
  obtain ⟨a, ca, rfl, hm, _⟩ := ha
  clear hz
  generalize xs.length = n at *
  go_enter Try.func15, Try.ntmps15
  go_wp2_with (go_at_call 51; (with_reducible refine (HZ.out _ HR.out).mono ?_); rintro e w' ⟨rfl, rfl⟩)
  go_ret
  exact ⟨rfl, by go_grown⟩

set_option maxHeartbeats 1000000 in
theorem toCircuit_x (p : Int) (va : Value) (xs : List Int) (w : World) (ha : Reads w va xs) (hn : xs.length ≤ 1048576) :
    Calls Try.prog 17 #[.agg #[.int .i64 p, va]] w fun e w' => ∃ a cap B C, e = .returned (.agg #[.int .i64 p, .slice a xs.length cap]) ∧ In w' B C (.slice a xs.length cap) xs ∧ w.heap.size ≤ B ∧ (B ≤ C ∧ C ≤ w'.heap.size) ∧ Below w.heap.size w w' := by
  have HA := Lib.hid ha
  obtain ⟨a, ca, rfl, hm, _⟩ := ha
  generalize hnn : xs.length = n at *
  have HN := Lib.hid hnn
  clear hnn
  have k0 : C2 (((w.alloc (.cells #[.int .i64 p, .slice a n ca] 24)).alloc (.cells #[.int .i64 0, .slice none 0 0] 27)).alloc (.cells #[.int .i64 p, .slice none 0 0] 27)) (w.heap.size) (.int .i64 p) (.slice a n ca) := by simpa using ((C2.here w (.int .i64 p) (.slice a n ca) 24).alloc (.cells #[.int .i64 0, .slice none 0 0] 27)).alloc (.cells #[.int .i64 p, .slice none 0 0] 27)
  have k1 : C2 (((w.alloc (.cells #[.int .i64 p, .slice a n ca] 24)).alloc (.cells #[.int .i64 0, .slice none 0 0] 27)).alloc (.cells #[.int .i64 p, .slice none 0 0] 27)) (w.heap.size + 1) (.int .i64 0) (.slice none 0 0) := by simpa using (C2.here (w.alloc (.cells #[.int .i64 p, .slice a n ca] 24)) (.int .i64 0) (.slice none 0 0) 27).alloc (.cells #[.int .i64 p, .slice none 0 0] 27)
  have k2 : C2 (((w.alloc (.cells #[.int .i64 p, .slice a n ca] 24)).alloc (.cells #[.int .i64 0, .slice none 0 0] 27)).alloc (.cells #[.int .i64 p, .slice none 0 0] 27)) (w.heap.size + 1 + 1) (.int .i64 p) (.slice none 0 0) := by simpa using C2.here ((w.alloc (.cells #[.int .i64 p, .slice a n ca] 24)).alloc (.cells #[.int .i64 0, .slice none 0 0] 27)) (.int .i64 p) (.slice none 0 0) 27
  go_enter Try.func17, Try.ntmps17
  go_wp2_with fail
  refine (toInt64S_any _ xs _ (HA.out.keep (by go_grown)) (by rw [HN.out]; exact hn)).mono ?_
  rintro e wa ⟨u, rfl, ou, hb⟩
  obtain ⟨ua, uc, rfl, _, _⟩ := ou.reads
  rw [HN.out] at *
  replace k0 := keepAt hb k0
  replace k1 := keepAt hb k1
  replace k2 := keepAt hb k2
  have hL := chain (B := w.heap.size) (a := w) (by go_grown) (Nat.le_refl _) hb
  have hzz := hb.size
  simp only [World.size_alloc] at hzz
  have OU : Hid (In wa (w.heap.size + 1 + 1 + 1) wa.heap.size (.slice ua n uc) xs) := In.of ou (by simp) (Nat.le_refl _)
  clear hb ou
  go_wp2_with fail
  refine bodyPost_ret (v := .agg #[.int .i64 p, .slice ua n uc]) (by simp [results, Try.results17, go_sem, *]) rfl ?_
  refine ⟨ua, uc, w.heap.size + 1 + 1 + 1, wa.heap.size, rfl, ?_, by omega, ⟨by omega, by simp⟩, by go_grown⟩
  refine ⟨rowSame OU.out.1 fun k hk e => ?_, OU.out.2⟩
  have hlo := (World.ownsRow.lt OU.out.1 k e).1
  repeat rw [Below.heap_setCell _ _ _ k (by dsimp only; omega)]

theorem eqCircuit_same (p : Int) (va vb : Value) (xs : List Int) (w : World) (ha : Reads w va xs) (hb : Reads w vb xs) :
    Calls Try.prog 19 #[.agg #[.int .i64 p, va], .agg #[.int .i64 p, vb]] w fun e w' => e = .returned (.bool true) ∧ Below w.heap.size w w' := by
  have HA := Lib.hid (ha.keep (((Below.refl _ _).alloc (Nat.le_refl _) (.cells #[.int .i64 p, va] 27)).alloc (by simp) (.cells #[.int .i64 p, vb] 27)))
  have HB := Lib.hid (hb.keep (((Below.refl _ _).alloc (Nat.le_refl _) (.cells #[.int .i64 p, va] 27)).alloc (by simp) (.cells #[.int .i64 p, vb] 27)))
  obtain ⟨a, ca, rfl, _, _⟩ := ha
  obtain ⟨b, cb, rfl, _, _⟩ := hb
  go_enter Try.func19, Try.ntmps19
  go_wp2_with (go_at_call 24; (with_reducible refine (eqInt64S_same _ _ xs _ HA.out HB.out).mono ?_); rintro e w' ⟨rfl, hb⟩; have hL := chain (B := w.heap.size) (a := w) (by go_grown) (Nat.le_refl _) hb; clear hb)
  go_ret
  exact ⟨rfl, hL⟩

theorem markCircuit_any (p : Int) (v : Value) (B C : Nat) (xs : List Int) (q : Int) (w : World) (h : In w B C v xs) (hC : C ≤ w.heap.size) (hn : xs.length ≤ 1048576) (q0 : 0 ≤ q) (q1 : q ≤ 1000000000) :
    Calls Try.prog 25 #[.agg #[.int .i64 p, v], .int .i64 q] w fun e w' => e = .returned (.int .i64 (q + xs.length)) ∧ In w' B C v (iota q xs.length) ∧ Only B C w w' := by
  have HM : Hid (∀ w', In w' B C v xs → Calls Try.prog 26 #[v, .int .i64 q] w' fun e w'' => e = .returned (.int .i64 (q + xs.length)) ∧ In w'' B C v (iota q xs.length) ∧ Only B C w' w'') := fun w' h => markIn_any v B C xs q w' h hn q0 (by omega)
  have HO := Lib.hid (h.keep ((Below.refl _ _).alloc (Nat.le_refl _) (.cells #[.int .i64 p, v] 27)))
  obtain ⟨a, ca, rfl, _, _⟩ := h.reads
  have hr : Hid ((0 : Int) ≤ q + (xs.length : Int)) := by unfold Hid; omega
  generalize q + (xs.length : Int) = r at *
  clear q0 q1
  go_enter Try.func25, Try.ntmps25
  go_wp2_with fail
  refine (HM.out _ HO.out).mono ?_
  rintro e w2 ⟨rfl, om, oo⟩
  have HA : Hid (Only B C w w2) := ⟨oo.os, oo.tape, oo.output, Nat.le_trans (by simp) oo.size, fun k hk ho => by
    rw [oo.block k (by simp; omega) ho]
    exact Below.heap_alloc w _ k hk⟩
  have HB := Lib.hid om
  clear om oo
  go_wp2_with fail
  go_ret
  exact ⟨rfl, HB.out, HA.out⟩

theorem heldCircuit_any (p : Int) (v : Value) (n : Nat) (q : Int) (w : World) (h : Reads w v (iota q n)) (hn : n ≤ 1048576) (q0 : 0 ≤ q) (q1 : q ≤ 1000000000) :
    Calls Try.prog 50 #[.agg #[.int .i64 p, v], .int .i64 q] w fun e w' => e = .returned (.int .i64 (q + n)) ∧ Below w.heap.size w w' := by
  have HM : Hid (∀ w', Reads w' v (iota q n) → Calls Try.prog 27 #[v, .int .i64 q] w' fun e w'' => e = .returned (.int .i64 (q + n)) ∧ Below w'.heap.size w' w'') := fun w' h => heldInt64S_any v n q w' h hn q0 (by omega)
  have HO := Lib.hid (h.keep ((Below.refl _ _).alloc (Nat.le_refl _) (.cells #[.int .i64 p, v] 27)))
  have hr : ¬ q + (n : Int) < 0 := by omega
  obtain ⟨a, ca, rfl, _, _⟩ := h
  clear q0 q1
  generalize q + (n : Int) = r at *
  go_enter Try.func50, Try.ntmps50
  go_wp2_with fail
  refine (HM.out _ HO.out).mono ?_
  rintro e w2 ⟨rfl, hb⟩
  have hL := chain (B := w.heap.size) (a := w) (by go_grown) (Nat.le_refl _) hb
  clear hb
  go_wp2_with fail
  go_ret
  exact ⟨rfl, hL⟩

end Go.Proofs.Ytblbapehakcomaa
