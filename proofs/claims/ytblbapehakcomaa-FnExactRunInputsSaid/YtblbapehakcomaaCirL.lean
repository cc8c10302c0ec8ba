/- IsCircuit, AimOf, RelaysToChange, SteadyStates: the program's and the model's. -/
import Derived.Test.YtblbapehakcomaaCirK
import Derived.Test.YtblbapehakcomaaCirT
import Derived.Test.YtblbapehakcomaaIn
namespace Go.Proofs.Ytblbapehakcomaa
open Go.RowKit
set_option linter.unusedVariables false

theorem sitC_zero {p i s : Int} {xs : List Int} (h : sitC p xs i s = 0) : cirB p xs = true ∧ inB i p = true ∧ inB s xs.length = true := by
  unfold sitC at h
  by_cases h1 : cirB p xs = true
  · rw [if_pos h1] at h
    by_cases h2 : inB i p = true ∧ inB s xs.length = true
    · exact ⟨h1, h2⟩
    · rw [if_neg h2] at h; cases h
  · rw [if_neg h1] at h; cases h
theorem inNil (w : World) (lo hi : Nat) : In w lo hi (.slice none 0 0) [] := ⟨World.ownsRow_nil _ _ _ _, fun b e => by cases e⟩

/-! ### IsCircuit -/
def resIsCircuit_0 (p : Int) (xs : List Int) : Bool := cirB p xs
theorem iIsCircuit_any (p : Int) (v : Value) (xs : List Int) (w : World) (ha : Reads w v xs) :
    Calls Try.prog 18 #[.agg #[.int .i64 p, v]] w fun e w' => e = .returned (.bool (resIsCircuit_0 p xs)) ∧ Below w.heap.size w w' := isCircuit_any p v xs w ha rfl
theorem sIsCircuit_any (p : Int) (v : Value) (xs : List Int) (w : World) (ha : Reads w v xs) :
    Calls Try.prog 16 #[.agg #[.int .i64 p, v]] w fun e w' => e = .returned (.bool (resIsCircuit_0 p xs)) ∧ Below w.heap.size w w' := by
  have HC := Lib.hid (fun w' (h : Below w.heap.size w w') => l06Is_any p v xs w' (ha.keep h) (b := resIsCircuit_0 p xs) rfl)
  obtain ⟨a, ca, rfl, hm, _⟩ := ha
  generalize resIsCircuit_0 p xs = b at *
  generalize xs.length = n at *
  go_enter Try.func16, Try.ntmps16
  go_wp2_with fail
  refine (HC.out _ (by go_grown)).mono ?_
  rintro e w1 ⟨rfl, hb⟩
  have hL := chain (B := w.heap.size) (a := w) (by go_grown) (Nat.le_refl _) hb
  clear hb
  go_wp2_with fail
  go_ret
  exact ⟨rfl, hL⟩

/-! ### AimOf -/
def resAimOf_0 (p : Int) (xs : List Int) (i s : Int) : Int := if sitC p xs i s = 0 then aimZ p xs i s else 0
def resAimOf_1 (p : Int) (xs : List Int) (i s : Int) : Int := sitC p xs i s
theorem iAimOf_any (p : Int) (v : Value) (xs : List Int) (i s : Int) (w : World) (ha : Reads w v xs) :
    Calls Try.prog 21 #[.agg #[.int .i64 p, v], .int .i64 i, .int .i64 s] w fun e w' => e = .returned (.tuple #[.int .i64 (resAimOf_0 p xs i s), .int .i64 (resAimOf_1 p xs i s)]) ∧ Below w.heap.size w w' := by
  obtain ⟨c, hc⟩ : ∃ c, sitC p xs i s = c := ⟨_, rfl⟩
  have HE := Lib.hid (fun w' (h : Below w.heap.size w w') => situationError_any p i s v xs w' (ha.keep h) hc)
  by_cases h0 : c = 0
  · subst h0
    obtain ⟨h1, h2, h3⟩ := sitC_zero hc
    have HA := Lib.hid (fun w' (h : Below w.heap.size w w') => aimIn_any p i s v xs w' (ha.keep h) h1 h2 h3)
    have HR : Hid (resAimOf_0 p xs i s = aimZ p xs i s ∧ resAimOf_1 p xs i s = 0) := ⟨by unfold resAimOf_0; rw [if_pos hc], hc⟩
    obtain ⟨a, ca, rfl, hm, _⟩ := ha
    have k0 := C2.here w (.int .i64 p) (.slice a xs.length ca) 27
    clear hc h1 h2 h3
    generalize aimZ p xs i s = y at *
    generalize xs.length = n at *
    go_enter Try.func21, Try.ntmps21
    go_wp2_with (first | (go_at_call 60; (with_reducible refine (HE.out _ (by go_grown)).mono ?_); rintro e w' ⟨rfl, hb⟩; have hL := chain (B := w.heap.size) (a := w) (by go_grown) (Nat.le_refl _) hb; (first | replace k0 := keepAt hb k0 | replace k0 := keepAt hb (C2.alloc k0 _)); clear hb) | (go_at_call 61; (with_reducible refine (HA.out _ (by go_grown)).mono ?_); rintro e w' ⟨rfl, hb⟩; have hL := chain (B := w.heap.size) (a := w) (by go_grown) (Nat.le_refl _) hb; (first | replace k0 := keepAt hb k0 | replace k0 := keepAt hb (C2.alloc k0 _)); clear hb))
    go_ret2
    exact ⟨by rw [HR.out.1, HR.out.2]; rfl, hL⟩
  · have HR : Hid (resAimOf_0 p xs i s = 0 ∧ resAimOf_1 p xs i s = c) := ⟨by unfold resAimOf_0; rw [if_neg (by rw [hc]; exact h0)], hc⟩
    have hne : (c != 0) = true := by simp [h0]
    obtain ⟨a, ca, rfl, hm, _⟩ := ha
    have k0 := C2.here w (.int .i64 p) (.slice a xs.length ca) 27
    clear hc h0
    generalize xs.length = n at *
    go_enter Try.func21, Try.ntmps21
    go_wp2_with ((go_at_call 60; (with_reducible refine (HE.out _ (by go_grown)).mono ?_); rintro e w' ⟨rfl, hb⟩; have hL := chain (B := w.heap.size) (a := w) (by go_grown) (Nat.le_refl _) hb; (first | replace k0 := keepAt hb k0 | replace k0 := keepAt hb (C2.alloc k0 _)); clear hb))
    go_ret2
    exact ⟨by rw [HR.out.1, HR.out.2]; rfl, hL⟩
theorem sAimOf_any (p : Int) (v : Value) (xs : List Int) (i s : Int) (w : World) (ha : Reads w v xs) :
    Calls Try.prog 20 #[.agg #[.int .i64 p, v], .int .i64 i, .int .i64 s] w fun e w' => e = .returned (.tuple #[.int .i64 (resAimOf_0 p xs i s), .int .i64 (resAimOf_1 p xs i s)]) ∧ Below w.heap.size w w' := by
  obtain ⟨c, hc⟩ : ∃ c, sitC p xs i s = c := ⟨_, rfl⟩
  have HE := Lib.hid (fun w' vs (h : Below w.heap.size w w') (hs : Reads w' vs [s]) => l06Code_any p i v vs xs [s] w' (ha.keep h) hs (c := c) (by rw [codeL_one]; exact hc))
  obtain ⟨a, ca, rfl, hm, ha'⟩ := ha
  have ha : Reads w (.slice a xs.length ca) xs := ⟨a, ca, rfl, hm, ha'⟩
  clear ha'
  have HO := Lib.hid (reads_one (w.alloc (.cells #[.int .i64 p, .slice a xs.length ca] 27)) s 2)
  have k0 := (C2.here w (.int .i64 p) (.slice a xs.length ca) 27).alloc (.cells #[.int .i64 s] 2)
  by_cases h0 : c = 0
  · subst h0
    obtain ⟨h1, h2, h3⟩ := sitC_zero hc
    have HA := Lib.hid (fun w' (h : Below w.heap.size w w') => l06Aim_any p i s _ xs w' (ha.keep h) h1 h2 h3)
    have HR : Hid (resAimOf_0 p xs i s = aimZ p xs i s ∧ resAimOf_1 p xs i s = 0) := ⟨by unfold resAimOf_0; rw [if_pos hc], hc⟩
    clear hc h1 h2 h3 ha
    generalize aimZ p xs i s = y at *
    generalize xs.length = n at *
    go_enter Try.func20, Try.ntmps20
    go_wp2_with (first | (go_at_call 58; (with_reducible refine (HE.out _ _ (by go_grown) (by simpa using HO.out)).mono ?_); rintro e w' ⟨rfl, hb⟩; have hL := chain (B := w.heap.size) (a := w) (by go_grown) (Nat.le_refl _) hb; (first | replace k0 := keepAt hb k0 | replace k0 := keepAt hb (C2.alloc k0 _)); clear hb) | (go_at_call 59; (with_reducible refine (HA.out _ (by go_grown)).mono ?_); rintro e w' ⟨rfl, hb⟩; have hL := chain (B := w.heap.size) (a := w) (by go_grown) (Nat.le_refl _) hb; (first | replace k0 := keepAt hb k0 | replace k0 := keepAt hb (C2.alloc k0 _)); clear hb))
    go_ret2
    exact ⟨by rw [HR.out.1, HR.out.2]; rfl, hL⟩
  · have HR : Hid (resAimOf_0 p xs i s = 0 ∧ resAimOf_1 p xs i s = c) := ⟨by unfold resAimOf_0; rw [if_neg (by rw [hc]; exact h0)], hc⟩
    have hne : (c != 0) = true := by simp [h0]
    clear hc h0 ha
    generalize xs.length = n at *
    go_enter Try.func20, Try.ntmps20
    go_wp2_with ((go_at_call 58; (with_reducible refine (HE.out _ _ (by go_grown) (by simpa using HO.out)).mono ?_); rintro e w' ⟨rfl, hb⟩; have hL := chain (B := w.heap.size) (a := w) (by go_grown) (Nat.le_refl _) hb; (first | replace k0 := keepAt hb k0 | replace k0 := keepAt hb (C2.alloc k0 _)); clear hb))
    go_ret2
    exact ⟨by rw [HR.out.1, HR.out.2]; rfl, hL⟩

/-! ### RelaysToChange -/
def resRelaysToChange_0 (p : Int) (xs : List Int) (i s : Int) : List Int := if sitC p xs i s = 0 then chL p xs i s else []
def resRelaysToChange_1 (p : Int) (xs : List Int) (i s : Int) : Int := sitC p xs i s
theorem lenRelaysToChange_0 (p : Int) (xs : List Int) (i s : Int) : (resRelaysToChange_0 p xs i s).length ≤ 100000 := by
  unfold resRelaysToChange_0
  by_cases h : sitC p xs i s = 0
  · rw [if_pos h]; have := onesTo_len (chZ p xs i s) 62; unfold chL; omega
  · rw [if_neg h]; simp
theorem iRelaysToChange_any (p : Int) (v : Value) (xs : List Int) (i s : Int) (w : World) (ha : Reads w v xs) :
    Calls Try.prog 23 #[.agg #[.int .i64 p, v], .int .i64 i, .int .i64 s] w fun e w' => ∃ u, e = .returned (.tuple #[u, .int .i64 (resRelaysToChange_1 p xs i s)]) ∧ In w' w.heap.size w'.heap.size u (resRelaysToChange_0 p xs i s) ∧ Below w.heap.size w w' := by
  obtain ⟨c, hc⟩ : ∃ c, sitC p xs i s = c := ⟨_, rfl⟩
  have HE := Lib.hid (fun w' (h : Below w.heap.size w w') => situationError_any p i s v xs w' (ha.keep h) hc)
  by_cases h0 : c = 0
  · subst h0
    obtain ⟨h1, h2, h3⟩ := sitC_zero hc
    have HA := Lib.hid (fun w' (h : Below w.heap.size w w') => changingIn_any p i s v xs w' (ha.keep h) h1 h2 h3)
    have HR : Hid (resRelaysToChange_0 p xs i s = chL p xs i s ∧ resRelaysToChange_1 p xs i s = 0) := ⟨by unfold resRelaysToChange_0; rw [if_pos hc], hc⟩
    obtain ⟨a, ca, rfl, hm, _⟩ := ha
    have k0 := C2.here w (.int .i64 p) (.slice a xs.length ca) 27
    clear hc h1 h2 h3
    generalize xs.length = n at *
    go_enter Try.func23, Try.ntmps23
    go_wp2_with ((go_at_call 60; (with_reducible refine (HE.out _ (by go_grown)).mono ?_); rintro e w' ⟨rfl, hb⟩; have hL := chain (B := w.heap.size) (a := w) (by go_grown) (Nat.le_refl _) hb; (first | replace k0 := keepAt hb k0 | replace k0 := keepAt hb (C2.alloc k0 _)); clear hb))
    refine (HA.out _ hL).mono ?_
    rintro e w2 ⟨u, rfl, ou, hb⟩
    have hs1 := hL.size
    have hL2 := chain (B := w.heap.size) (a := w) hL (Nat.le_refl _) hb
    clear hb
    go_wp2_with fail
    go_ret2
    exact ⟨u, by rw [HR.out.2]; rfl, by rw [HR.out.1]; exact In.of ou hs1 (Nat.le_refl _), hL2⟩
  · have HR : Hid (resRelaysToChange_0 p xs i s = [] ∧ resRelaysToChange_1 p xs i s = c) := ⟨by unfold resRelaysToChange_0; rw [if_neg (by rw [hc]; exact h0)], hc⟩
    have hne : (c != 0) = true := by simp [h0]
    obtain ⟨a, ca, rfl, hm, _⟩ := ha
    have k0 := C2.here w (.int .i64 p) (.slice a xs.length ca) 27
    clear hc h0
    generalize xs.length = n at *
    go_enter Try.func23, Try.ntmps23
    go_wp2_with ((go_at_call 60; (with_reducible refine (HE.out _ (by go_grown)).mono ?_); rintro e w' ⟨rfl, hb⟩; have hL := chain (B := w.heap.size) (a := w) (by go_grown) (Nat.le_refl _) hb; (first | replace k0 := keepAt hb k0 | replace k0 := keepAt hb (C2.alloc k0 _)); clear hb))
    go_ret2
    exact ⟨_, by rw [HR.out.2]; rfl, by rw [HR.out.1]; exact inNil _ _ _, hL⟩
theorem sRelaysToChange_any (p : Int) (v : Value) (xs : List Int) (i s : Int) (w : World) (ha : Reads w v xs) :
    Calls Try.prog 22 #[.agg #[.int .i64 p, v], .int .i64 i, .int .i64 s] w fun e w' => ∃ u, e = .returned (.tuple #[u, .int .i64 (resRelaysToChange_1 p xs i s)]) ∧ Reads w' u (resRelaysToChange_0 p xs i s) ∧ Below w.heap.size w w' := by
  obtain ⟨c, hc⟩ : ∃ c, sitC p xs i s = c := ⟨_, rfl⟩
  have HE := Lib.hid (fun w' vs (h : Below w.heap.size w w') (hs : Reads w' vs [s]) => l06Code_any p i v vs xs [s] w' (ha.keep h) hs (c := c) (by rw [codeL_one]; exact hc))
  obtain ⟨a, ca, rfl, hm, ha'⟩ := ha
  have ha : Reads w (.slice a xs.length ca) xs := ⟨a, ca, rfl, hm, ha'⟩
  clear ha'
  have HO := Lib.hid (reads_one (w.alloc (.cells #[.int .i64 p, .slice a xs.length ca] 27)) s 2)
  have k0 := (C2.here w (.int .i64 p) (.slice a xs.length ca) 27).alloc (.cells #[.int .i64 s] 2)
  by_cases h0 : c = 0
  · subst h0
    obtain ⟨h1, h2, h3⟩ := sitC_zero hc
    have HA := Lib.hid (fun w' (h : Below w.heap.size w w') => l06Change_any p i s _ xs w' (ha.keep h) h1 h2 h3)
    have HR : Hid (resRelaysToChange_0 p xs i s = chL p xs i s ∧ resRelaysToChange_1 p xs i s = 0) := ⟨by unfold resRelaysToChange_0; rw [if_pos hc], hc⟩
    clear hc h1 h2 h3 ha
    generalize xs.length = n at *
    go_enter Try.func22, Try.ntmps22
    go_wp2_with ((go_at_call 58; (with_reducible refine (HE.out _ _ (by go_grown) (by simpa using HO.out)).mono ?_); rintro e w' ⟨rfl, hb⟩; have hL := chain (B := w.heap.size) (a := w) (by go_grown) (Nat.le_refl _) hb; (first | replace k0 := keepAt hb k0 | replace k0 := keepAt hb (C2.alloc k0 _)); clear hb))
    refine (HA.out _ hL).mono ?_
    rintro e w2 ⟨u, rfl, ou, hb⟩
    have hL2 := chain (B := w.heap.size) (a := w) hL (Nat.le_refl _) hb
    clear hb
    go_wp2_with fail
    go_ret2
    exact ⟨u, by rw [HR.out.2]; rfl, by rw [HR.out.1]; exact ou.reads, hL2⟩
  · have HR : Hid (resRelaysToChange_0 p xs i s = [] ∧ resRelaysToChange_1 p xs i s = c) := ⟨by unfold resRelaysToChange_0; rw [if_neg (by rw [hc]; exact h0)], hc⟩
    have hne : (c != 0) = true := by simp [h0]
    clear hc h0 ha
    generalize xs.length = n at *
    go_enter Try.func22, Try.ntmps22
    go_wp2_with ((go_at_call 58; (with_reducible refine (HE.out _ _ (by go_grown) (by simpa using HO.out)).mono ?_); rintro e w' ⟨rfl, hb⟩; have hL := chain (B := w.heap.size) (a := w) (by go_grown) (Nat.le_refl _) hb; (first | replace k0 := keepAt hb k0 | replace k0 := keepAt hb (C2.alloc k0 _)); clear hb))
    go_ret2
    exact ⟨_, by rw [HR.out.2]; rfl, by rw [HR.out.1]; exact (inNil _ 0 0).reads, hL⟩

end Go.Proofs.Ytblbapehakcomaa
