/- IsLit: the program's and the model's. -/
import Derived.Test.YtkdidplpnhokiaaLts
import Derived.Test.YtkdidplpnhokiaaWis
namespace Go.Proofs.Ytkdidplpnhokiaa
open Go.RowKit
set_option linter.unusedVariables false

/-- the code of a wiring and positions -/
def posC (p : Int) (xs : List Int) (yss : List (List Int)) (x : Int) : Int := if wirB p xs yss = true then (if 0 ≤ x ∧ x < rcZ (xs.length : Int) then 0 else 2) else 1
theorem posC_zero {p : Int} {xs : List Int} {yss : List (List Int)} {x : Int} (h : posC p xs yss x = 0) : Wir p xs yss ∧ 0 ≤ x ∧ x < rcZ (xs.length : Int) ∧ x < 32 := by
  unfold posC at h
  split at h
  · rename_i hw
    split at h
    · rename_i hx
      have hw' := wirB_out hw
      have := rcZ_bd (n := (xs.length : Int)) (by have := hw'.1.1; omega) (by have := hw'.1.1; omega)
      exact ⟨hw', hx.1, hx.2, by omega⟩
    · cases h
  · cases h

theorem positionCount_any (v : Value) (p : Int) (xs : List Int) (yss : List (List Int)) (w : World) (ha : ReadsW w v p xs yss) (h1 : 1 ≤ xs.length) (h5 : xs.length ≤ 5) {z : Int} (hz : rcZ (xs.length : Int) = z) :
    Calls Try.prog 100 #[v] w fun e w' => e = .returned (.int .i64 z) ∧ Below w.heap.size w w' := by
  have HR := Lib.hid (fun w => hz ▸ rowCount_any (xs.length : Int) w (by omega) (by omega))
  obtain ⟨a, ca, b, cb, rfl, _, _⟩ := ha
  have h0 := C3.here w (.int .i64 p) (.slice a xs.length ca) (.slice b yss.length cb) 28
  clear hz h1 h5
  generalize xs.length = n at *
  generalize yss.length = m at *
  go_enter Try.func100, Try.ntmps100
  go_wp2_with ((go_at_call 131; (with_reducible refine (HR.out _).mono ?_); rintro e w' ⟨rfl, rfl⟩))
  go_ret
  exact ⟨rfl, by go_grown⟩

set_option maxRecDepth 100000 in
set_option maxHeartbeats 1000000 in
theorem positionsError_any (v : Value) (p : Int) (xs : List Int) (yss : List (List Int)) (x : Int) (w : World) (ha : ReadsW w v p xs yss) {c : Int} (hc : posC p xs yss x = c) :
    Calls Try.prog 74 #[v, .int .i64 x] w fun e w' => e = .returned (.int .i64 c) ∧ Below w.heap.size w w' := by
  obtain ⟨d, hd⟩ : ∃ d, wirB p xs yss = d := ⟨_, rfl⟩
  have HW := Lib.hid (fun w' (h : Below w.heap.size w w') => isWiring_any v p xs yss w' (ha.keep h) hd)
  have ha' := ha
  obtain ⟨a, ca, b', cb, rfl, _, _⟩ := ha
  have h0 := C3.here w (.int .i64 p) (.slice a xs.length ca) (.slice b' yss.length cb) 28
  cases d
  · have HC : Hid (c = 1) := by rw [Hid, ← hc]; unfold posC; rw [hd]; rfl
    clear hc hd ha'
    generalize xs.length = n at *
    generalize yss.length = m at *
    go_enter Try.func74, Try.ntmps74
    go_wp2_with ((go_at_call 18; (with_reducible refine (HW.out _ (by go_grown)).mono ?_); rintro e w' ⟨rfl, hb⟩; have hL := chain (B := w.heap.size) (a := w) (by go_grown) (Nat.le_refl _) hb; (first | replace h0 := keepAt3 hb h0 | replace h0 := keepAt3 hb (C3.alloc h0 _)); clear hb))
    go_ret
    exact ⟨by rw [HC.out]; rfl, hL⟩
  · have hw := wirB_out hd
    obtain ⟨h1, h5⟩ := hw.1.1
    obtain ⟨z, hz⟩ : ∃ z, rcZ (xs.length : Int) = z := ⟨_, rfl⟩
    have HPC := Lib.hid (fun w' (h : Below w.heap.size w w') => positionCount_any _ p xs yss w' (ha'.keep h) h1 h5 hz)
    by_cases hx : 0 ≤ x ∧ x < z
    · have HC : Hid (c = 0) := by rw [Hid, ← hc]; unfold posC; rw [if_pos hd, hz, if_pos hx]
      have HB := Lib.hid (fun w => isBelow_yes x z w hx)
      clear hc hd ha' hw hz hx h1 h5
      generalize xs.length = n at *
      generalize yss.length = m at *
      go_enter Try.func74, Try.ntmps74
      go_wp2_with (first | (go_at_call 18; (with_reducible refine (HW.out _ (by go_grown)).mono ?_); rintro e w' ⟨rfl, hb⟩; have hL := chain (B := w.heap.size) (a := w) (by go_grown) (Nat.le_refl _) hb; (first | replace h0 := keepAt3 hb h0 | replace h0 := keepAt3 hb (C3.alloc h0 _)); clear hb) | (go_at_call 100; (with_reducible refine (HPC.out _ (by go_grown)).mono ?_); rintro e w' ⟨rfl, hb⟩; have hL := chain (B := w.heap.size) (a := w) (by go_grown) (Nat.le_refl _) hb; (first | replace h0 := keepAt3 hb h0 | replace h0 := keepAt3 hb (C3.alloc h0 _)); clear hb) | (go_at_call 89; (with_reducible refine (HB.out _).mono ?_); rintro e w' ⟨rfl, rfl⟩))
      go_ret
      exact ⟨by rw [HC.out]; rfl, hL⟩
    · have HC : Hid (c = 2) := by rw [Hid, ← hc]; unfold posC; rw [if_pos hd, hz, if_neg hx]
      have HB := Lib.hid (fun w => isBelow_no x z w hx)
      clear hc hd ha' hw hz hx h1 h5
      generalize xs.length = n at *
      generalize yss.length = m at *
      go_enter Try.func74, Try.ntmps74
      go_wp2_with (first | (go_at_call 18; (with_reducible refine (HW.out _ (by go_grown)).mono ?_); rintro e w' ⟨rfl, hb⟩; have hL := chain (B := w.heap.size) (a := w) (by go_grown) (Nat.le_refl _) hb; (first | replace h0 := keepAt3 hb h0 | replace h0 := keepAt3 hb (C3.alloc h0 _)); clear hb) | (go_at_call 100; (with_reducible refine (HPC.out _ (by go_grown)).mono ?_); rintro e w' ⟨rfl, hb⟩; have hL := chain (B := w.heap.size) (a := w) (by go_grown) (Nat.le_refl _) hb; (first | replace h0 := keepAt3 hb h0 | replace h0 := keepAt3 hb (C3.alloc h0 _)); clear hb) | (go_at_call 89; (with_reducible refine (HB.out _).mono ?_); rintro e w' ⟨rfl, rfl⟩))
      go_ret
      exact ⟨by rw [HC.out]; rfl, hL⟩

theorem l01Rows_z (n : Int) (w : World) (h1 : 1 ≤ n) (h5 : n ≤ 5) :
    Calls Try.prog 83 #[.int .i64 n] w fun e w' => e = .returned (.int .i64 (rcZ n)) ∧ w = w' := by
  rcases cases5 h1 h5 with rfl | rfl | rfl | rfl | rfl <;>
  · go_enter Try.func83, Try.ntmps83
    go_wp2
    go_ret
    exact ⟨rfl, rfl⟩

set_option maxRecDepth 100000 in
set_option maxHeartbeats 1000000 in
theorem l10Code_any (v : Value) (p : Int) (xs : List Int) (yss : List (List Int)) (x : Int) (w : World) (ha : ReadsW w v p xs yss) {c : Int} (hc : posC p xs yss x = c) :
    Calls Try.prog 72 #[v, .int .i64 x] w fun e w' => e = .returned (.int .i64 c) ∧ Below w.heap.size w w' := by
  obtain ⟨d, hd⟩ : ∃ d, wirB p xs yss = d := ⟨_, rfl⟩
  have HW := Lib.hid (fun w' (h : Below w.heap.size w w') => l10Is_any v p xs yss w' (ha.keep h) hd)
  obtain ⟨a, ca, b', cb, rfl, _, _⟩ := ha
  have h0 := C3.here w (.int .i64 p) (.slice a xs.length ca) (.slice b' yss.length cb) 28
  cases d
  · have HC : Hid (c = 1) := by rw [Hid, ← hc]; unfold posC; rw [hd]; rfl
    clear hc hd
    generalize xs.length = n at *
    generalize yss.length = m at *
    go_enter Try.func72, Try.ntmps72
    go_wp2_with ((go_at_call 56; (with_reducible refine (HW.out _ (by go_grown)).mono ?_); rintro e w' ⟨rfl, hb⟩; have hL := chain (B := w.heap.size) (a := w) (by go_grown) (Nat.le_refl _) hb; (first | replace h0 := keepAt3 hb h0 | replace h0 := keepAt3 hb (C3.alloc h0 _)); clear hb))
    go_ret
    exact ⟨by rw [HC.out]; rfl, hL⟩
  · have hw := wirB_out hd
    obtain ⟨h1, h5⟩ := hw.1.1
    obtain ⟨z, hz⟩ : ∃ z, rcZ (xs.length : Int) = z := ⟨_, rfl⟩
    have hzb := rcZ_bd (n := (xs.length : Int)) (by omega) (by omega)
    rw [hz] at hzb
    obtain ⟨hz2, hz32⟩ := hzb
    have HR := Lib.hid (fun w => hz ▸ l01Rows_z (xs.length : Int) w (by omega) (by omega))
    by_cases hx : 0 ≤ x ∧ x ≤ z - 1
    · have HC : Hid (c = 0) := by rw [Hid, ← hc]; unfold posC; rw [if_pos hd, hz, if_pos (by omega)]
      have HB := Lib.hid (fun w => l01In_yes x 0 (z - 1) w hx)
      clear hc hd hw hz hx h1 h5
      generalize xs.length = n at *
      generalize yss.length = m at *
      go_enter Try.func72, Try.ntmps72
      go_wp2_with (first | (go_at_call 56; (with_reducible refine (HW.out _ (by go_grown)).mono ?_); rintro e w' ⟨rfl, hb⟩; have hL := chain (B := w.heap.size) (a := w) (by go_grown) (Nat.le_refl _) hb; (first | replace h0 := keepAt3 hb h0 | replace h0 := keepAt3 hb (C3.alloc h0 _)); clear hb) | (go_at_call 83; (with_reducible refine (HR.out _).mono ?_); rintro e w' ⟨rfl, rfl⟩) | (go_at_call 65; (with_reducible refine (HB.out _).mono ?_); rintro e w' ⟨rfl, rfl⟩))
      go_ret
      exact ⟨by rw [HC.out]; rfl, hL⟩
    · have HC : Hid (c = 2) := by rw [Hid, ← hc]; unfold posC; rw [if_pos hd, hz, if_neg (by omega)]
      have HB := Lib.hid (fun w => l01In_no x 0 (z - 1) w hx)
      clear hc hd hw hz hx h1 h5
      generalize xs.length = n at *
      generalize yss.length = m at *
      go_enter Try.func72, Try.ntmps72
      go_wp2_with (first | (go_at_call 56; (with_reducible refine (HW.out _ (by go_grown)).mono ?_); rintro e w' ⟨rfl, hb⟩; have hL := chain (B := w.heap.size) (a := w) (by go_grown) (Nat.le_refl _) hb; (first | replace h0 := keepAt3 hb h0 | replace h0 := keepAt3 hb (C3.alloc h0 _)); clear hb) | (go_at_call 83; (with_reducible refine (HR.out _).mono ?_); rintro e w' ⟨rfl, rfl⟩) | (go_at_call 65; (with_reducible refine (HB.out _).mono ?_); rintro e w' ⟨rfl, rfl⟩))
      go_ret
      exact ⟨by rw [HC.out]; rfl, hL⟩

theorem liveTerminals_zero (v : Value) (xs : List Int) (yss : List (List Int)) (pos : Int) (w : World) (ha : ReadsC w v (leadsL xs yss)) (hs : SwOk xs) (hy : Wires22 yss) (h16 : yss.length ≤ 16) (p0 : 0 ≤ pos) (p1 : pos < 32) {z : Nat} (hz : liveN (wirE xs yss (fun _ => false) pos) 0 = z) :
    Calls Try.prog 76 #[v, .int .i64 pos, .int .i64 0] w fun e w' => e = .returned (.int .i64 (z : Int)) ∧ Below w.heap.size w w' := by
  have e : (Nat.testBit 0) = fun _ => false := by funext i; exact Nat.zero_testBit i
  exact liveTerminals_any v xs yss pos 0 w ha hs hy h16 p0 p1 (Nat.pow_pos (by decide)) (by rw [e]; exact hz)
theorem lit_digit (xs : List Int) (yss : List (List Int)) (pos : Int) {z : Nat} (hz : liveN (wirE xs yss (fun _ => false) pos) 0 = z) : digZ (z : Int) 1 = if litB xs yss pos = true then 1 else 0 := by
  have h := liveN_dig (wirE xs yss (fun _ => false) pos) 0 (t := 1) (by decide)
  have hl := dig_lt z 1
  rw [hz] at h
  unfold digZ litB
  rw [Int.toNat_natCast, show (1 : Int).toNat = 1 from rfl]
  cases e : bP (Live (wirE xs yss (fun _ => false) pos) 0 1)
  · have : ¬ dig z 1 = 1 := fun h1 => bP_out e (h.1 h1)
    rw [if_neg (by simp)]; omega
  · rw [if_pos rfl, h.2 (bP_iff.1 e)]; rfl

noncomputable def resIsLit_0 (p : Int) (xs : List Int) (yss : List (List Int)) (x : Int) : Bool := if posC p xs yss x = 0 then litB xs yss x else false
def resIsLit_1 (p : Int) (xs : List Int) (yss : List (List Int)) (x : Int) : Int := posC p xs yss x

set_option maxRecDepth 100000 in
set_option maxHeartbeats 1000000 in
theorem iIsLit_any (v : Value) (p : Int) (xs : List Int) (yss : List (List Int)) (x : Int) (w : World) (ha : ReadsW w v p xs yss) :
    Calls Try.prog 25 #[v, .int .i64 x] w fun e w' => e = .returned (.tuple #[.bool (resIsLit_0 p xs yss x), .int .i64 (resIsLit_1 p xs yss x)]) ∧ Below w.heap.size w w' := by
  unfold resIsLit_0 resIsLit_1
  obtain ⟨c, hc⟩ : ∃ c, posC p xs yss x = c := ⟨_, rfl⟩
  have HP := Lib.hid (fun w' (h : Below w.heap.size w w') => positionsError_any v p xs yss x w' (ha.keep h) hc)
  have ha' := ha
  obtain ⟨a, ca, b', cb, rfl, _, _⟩ := ha
  have h0 := C3.here w (.int .i64 p) (.slice a xs.length ca) (.slice b' yss.length cb) 28
  rw [hc]
  by_cases h : c = 0
  · subst h
    obtain ⟨hw, x0, x1, x32⟩ := posC_zero hc
    rw [if_pos rfl]
    obtain ⟨b, hb⟩ : ∃ b, litB xs yss x = b := ⟨_, rfl⟩
    obtain ⟨z, hz⟩ : ∃ z, liveN (wirE xs yss (fun _ => false) x) 0 = z := ⟨_, rfl⟩
    have hzb : (z : Int) < 9223372036854775808 := by have := liveN_lt (wirE xs yss (fun _ => false) x) 0; omega
    have HLE := Lib.hid (fun w' (h : Below w.heap.size w w') => leadsOf_any _ p xs yss w' (ha'.keep h) hw.1 hw.weak.two hw.2.2.1)
    have HLT := Lib.hid (fun w' u (h : ReadsC w' u (leadsL xs yss)) => liveTerminals_zero u xs yss x w' h hw.1 hw.weak.w22 hw.2.2.1 x0 x32 hz)
    have hdg := lit_digit xs yss x hz
    have HDG : Hid (∀ w, Calls Try.prog 75 #[.int .i64 (z : Int), .int .i64 1] w fun e w' => e = .returned (.int .i64 (if litB xs yss x = true then 1 else 0)) ∧ w = w') := fun w => by rw [← hdg]; exact digitAt_any (z : Int) 1 w (by omega) hzb (by omega) (by omega)
    rw [hb] at HDG ⊢
    clear hc ha' hw x0 x1 x32 hb hz hzb hdg
    generalize (z : Int) = zz at *
    generalize xs.length = n at *
    generalize yss.length = m at *
    cases b
    · rw [if_neg (by simp)] at HDG
      go_enter Try.func25, Try.ntmps25
      go_wp2_with (first | (go_at_call 74; (with_reducible refine (HP.out _ (by go_grown)).mono ?_); rintro e w' ⟨rfl, hb⟩; have hL := chain (B := w.heap.size) (a := w) (by go_grown) (Nat.le_refl _) hb; (first | replace h0 := keepAt3 hb h0 | replace h0 := keepAt3 hb (C3.alloc h0 _)); clear hb) | (go_at_call 75; (with_reducible refine (HDG.out _).mono ?_); rintro e w' ⟨rfl, rfl⟩))
      refine (HLE.out _ hL).mono ?_
      rintro e w2 ⟨u, rfl, hu, hb⟩
      have hL2 := chain (B := w.heap.size) (a := w) hL (Nat.le_refl _) hb
      have HU := Lib.hid hu.reads
      clear hu hb hL
      go_wp2_with fail
      refine (HLT.out _ _ HU.out).mono ?_
      rintro e w3 ⟨rfl, hb⟩
      have hL3 := chain (B := w.heap.size) (a := w) hL2 (Nat.le_refl _) hb
      clear hb
      go_wp2_with ((go_at_call 75; (with_reducible refine (HDG.out _).mono ?_); rintro e w' ⟨rfl, rfl⟩))
      go_ret2
      exact ⟨rfl, hL3⟩
    · rw [if_pos rfl] at HDG
      go_enter Try.func25, Try.ntmps25
      go_wp2_with (first | (go_at_call 74; (with_reducible refine (HP.out _ (by go_grown)).mono ?_); rintro e w' ⟨rfl, hb⟩; have hL := chain (B := w.heap.size) (a := w) (by go_grown) (Nat.le_refl _) hb; (first | replace h0 := keepAt3 hb h0 | replace h0 := keepAt3 hb (C3.alloc h0 _)); clear hb) | (go_at_call 75; (with_reducible refine (HDG.out _).mono ?_); rintro e w' ⟨rfl, rfl⟩))
      refine (HLE.out _ hL).mono ?_
      rintro e w2 ⟨u, rfl, hu, hb⟩
      have hL2 := chain (B := w.heap.size) (a := w) hL (Nat.le_refl _) hb
      have HU := Lib.hid hu.reads
      clear hu hb hL
      go_wp2_with fail
      refine (HLT.out _ _ HU.out).mono ?_
      rintro e w3 ⟨rfl, hb⟩
      have hL3 := chain (B := w.heap.size) (a := w) hL2 (Nat.le_refl _) hb
      clear hb
      go_wp2_with ((go_at_call 75; (with_reducible refine (HDG.out _).mono ?_); rintro e w' ⟨rfl, rfl⟩))
      go_ret2
      exact ⟨rfl, hL3⟩
  · rw [if_neg h]
    have hne : (c != 0) = true := by simpa using h
    clear hc ha' h
    generalize xs.length = n at *
    generalize yss.length = m at *
    go_enter Try.func25, Try.ntmps25
    go_wp2_with ((go_at_call 74; (with_reducible refine (HP.out _ (by go_grown)).mono ?_); rintro e w' ⟨rfl, hb⟩; have hL := chain (B := w.heap.size) (a := w) (by go_grown) (Nat.le_refl _) hb; (first | replace h0 := keepAt3 hb h0 | replace h0 := keepAt3 hb (C3.alloc h0 _)); clear hb))
    go_ret2
    exact ⟨rfl, hL⟩

set_option maxRecDepth 100000 in
set_option maxHeartbeats 1000000 in
theorem sIsLit_any (v : Value) (p : Int) (xs : List Int) (yss : List (List Int)) (x : Int) (w : World) (ha : ReadsW w v p xs yss) :
    Calls Try.prog 24 #[v, .int .i64 x] w fun e w' => e = .returned (.tuple #[.bool (resIsLit_0 p xs yss x), .int .i64 (resIsLit_1 p xs yss x)]) ∧ Below w.heap.size w w' := by
  unfold resIsLit_0 resIsLit_1
  obtain ⟨c, hc⟩ : ∃ c, posC p xs yss x = c := ⟨_, rfl⟩
  have HP := Lib.hid (fun w' (h : Below w.heap.size w w') => l10Code_any v p xs yss x w' (ha.keep h) hc)
  have ha' := ha
  obtain ⟨a, ca, b', cb, rfl, _, _⟩ := ha
  have h0 := C3.here w (.int .i64 p) (.slice a xs.length ca) (.slice b' yss.length cb) 28
  rw [hc]
  by_cases h : c = 0
  · subst h
    obtain ⟨hw, x0, x1, x32⟩ := posC_zero hc
    rw [if_pos rfl]
    obtain ⟨b, hb⟩ : ∃ b, litB xs yss x = b := ⟨_, rfl⟩
    have HLI := Lib.hid (fun w' (h : Below w.heap.size w w') => l10Lit_any _ p xs yss x w' (ha'.keep h) hw.weak x0 x32 hb)
    rw [hb]
    clear hc ha' hw x0 x1 x32 hb
    generalize xs.length = n at *
    generalize yss.length = m at *
    go_enter Try.func24, Try.ntmps24
    go_wp2_with (first | (go_at_call 72; (with_reducible refine (HP.out _ (by go_grown)).mono ?_); rintro e w' ⟨rfl, hb⟩; have hL := chain (B := w.heap.size) (a := w) (by go_grown) (Nat.le_refl _) hb; (first | replace h0 := keepAt3 hb h0 | replace h0 := keepAt3 hb (C3.alloc h0 _)); clear hb) | (go_at_call 73; (with_reducible refine (HLI.out _ (by go_grown)).mono ?_); rintro e w' ⟨rfl, hb⟩; have hL := chain (B := w.heap.size) (a := w) (by go_grown) (Nat.le_refl _) hb; (first | replace h0 := keepAt3 hb h0 | replace h0 := keepAt3 hb (C3.alloc h0 _)); clear hb))
    go_ret2
    exact ⟨rfl, hL⟩
  · rw [if_neg h]
    have hne : (c != 0) = true := by simpa using h
    clear hc ha' h
    generalize xs.length = n at *
    generalize yss.length = m at *
    go_enter Try.func24, Try.ntmps24
    go_wp2_with ((go_at_call 72; (with_reducible refine (HP.out _ (by go_grown)).mono ?_); rintro e w' ⟨rfl, hb⟩; have hL := chain (B := w.heap.size) (a := w) (by go_grown) (Nat.le_refl _) hb; (first | replace h0 := keepAt3 hb h0 | replace h0 := keepAt3 hb (C3.alloc h0 _)); clear hb))
    go_ret2
    exact ⟨rfl, hL⟩

end Go.Proofs.Ytkdidplpnhokiaa
