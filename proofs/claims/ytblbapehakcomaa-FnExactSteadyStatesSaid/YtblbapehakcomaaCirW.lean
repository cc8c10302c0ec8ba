/- SteadyStates, WholeSteps: the program's and the model's. -/
import Derived.Test.YtblbapehakcomaaCirL
namespace Go.Proofs.Ytblbapehakcomaa
open Go.RowKit
set_option linter.unusedVariables false

/-! ### SteadyStates -/
def insC (p : Int) (xs : List Int) (i : Int) : Int := if cirB p xs = true then (if inB i p = true then 0 else 2) else 1
theorem codeL_nil (p : Int) (xs : List Int) (i : Int) : codeL p xs i [] = insC p xs i := by
  unfold codeL insC; simp
def resSteadyStates_0 (p : Int) (xs : List Int) (i : Int) : List Int := if insC p xs i = 0 then stdTo p xs i (2 ^ xs.length) else []
def resSteadyStates_1 (p : Int) (xs : List Int) (i : Int) : Int := insC p xs i
theorem insC_zero {p i : Int} {xs : List Int} (h : insC p xs i = 0) : cirB p xs = true ∧ inB i p = true := by
  unfold insC at h
  by_cases h1 : cirB p xs = true
  · rw [if_pos h1] at h
    by_cases h2 : inB i p = true
    · exact ⟨h1, h2⟩
    · rw [if_neg h2] at h; cases h
  · rw [if_neg h1] at h; cases h
theorem lenSteadyStates_0 (p : Int) (xs : List Int) (i : Int) : (resSteadyStates_0 p xs i).length ≤ 100000 := by
  unfold resSteadyStates_0
  by_cases h : insC p xs i = 0
  · rw [if_pos h]
    have h1 := stdTo_len p xs i (2 ^ xs.length)
    have h2 : xs.length ≤ 4 := (cirB_out (insC_zero h).1).2.1.2
    have h3 : 2 ^ xs.length ≤ 2 ^ 4 := Nat.pow_le_pow_right (by decide) h2
    omega
  · rw [if_neg h]; simp
theorem iSteadyStates_any (p : Int) (v : Value) (xs : List Int) (i : Int) (w : World) (ha : Reads w v xs) :
    Calls Try.prog 29 #[.agg #[.int .i64 p, v], .int .i64 i] w fun e w' => ∃ u, e = .returned (.tuple #[u, .int .i64 (resSteadyStates_1 p xs i)]) ∧ In w' w.heap.size w'.heap.size u (resSteadyStates_0 p xs i) ∧ Below w.heap.size w w' := by
  obtain ⟨b, hb⟩ : ∃ b, cirB p xs = b := ⟨_, rfl⟩
  have HC := Lib.hid (fun w' (h : Below w.heap.size w w') => isCircuit_any p v xs w' (ha.keep h) hb)
  cases b
  · have HR : Hid (resSteadyStates_0 p xs i = [] ∧ resSteadyStates_1 p xs i = 1) := by
      have : insC p xs i = 1 := by unfold insC; simp [hb]
      exact ⟨by unfold resSteadyStates_0; rw [this]; rfl, this⟩
    obtain ⟨a, ca, rfl, hm, _⟩ := ha
    have k0 := C2.here w (.int .i64 p) (.slice a xs.length ca) 27
    clear hb
    generalize xs.length = n at *
    go_enter Try.func29, Try.ntmps29
    go_wp2_with ((go_at_call 18; (with_reducible refine (HC.out _ (by go_grown)).mono ?_); rintro e w' ⟨rfl, hb⟩; have hL := chain (B := w.heap.size) (a := w) (by go_grown) (Nat.le_refl _) hb; (first | replace k0 := keepAt hb k0 | replace k0 := keepAt hb (C2.alloc k0 _)); clear hb))
    go_ret2
    exact ⟨_, by rw [HR.out.2]; rfl, by rw [HR.out.1]; exact inNil _ _ _, hL⟩
  · obtain ⟨⟨p1, p4⟩, _, _, _⟩ := cirB_out hb
    obtain ⟨b1, hb1⟩ : ∃ b, inB i p = b := ⟨_, rfl⟩
    have HI := Lib.hid (fun w' (h : Below w.heap.size w w') => areInputs_any p i v xs w' (ha.keep h) p1 (by omega) hb1)
    cases b1
    · have HR : Hid (resSteadyStates_0 p xs i = [] ∧ resSteadyStates_1 p xs i = 2) := by
        have : insC p xs i = 2 := by unfold insC; simp [hb, hb1]
        exact ⟨by unfold resSteadyStates_0; rw [this]; rfl, this⟩
      obtain ⟨a, ca, rfl, hm, _⟩ := ha
      have k0 := C2.here w (.int .i64 p) (.slice a xs.length ca) 27
      clear hb hb1
      generalize xs.length = n at *
      go_enter Try.func29, Try.ntmps29
      go_wp2_with (first | (go_at_call 18; (with_reducible refine (HC.out _ (by go_grown)).mono ?_); rintro e w' ⟨rfl, hb⟩; have hL := chain (B := w.heap.size) (a := w) (by go_grown) (Nat.le_refl _) hb; (first | replace k0 := keepAt hb k0 | replace k0 := keepAt hb (C2.alloc k0 _)); clear hb) | (go_at_call 65; (with_reducible refine (HI.out _ (by go_grown)).mono ?_); rintro e w' ⟨rfl, hb⟩; have hL := chain (B := w.heap.size) (a := w) (by go_grown) (Nat.le_refl _) hb; (first | replace k0 := keepAt hb k0 | replace k0 := keepAt hb (C2.alloc k0 _)); clear hb))
      go_ret2
      exact ⟨_, by rw [HR.out.2]; rfl, by rw [HR.out.1]; exact inNil _ _ _, hL⟩
    · have HR : Hid (resSteadyStates_0 p xs i = stdTo p xs i (2 ^ xs.length) ∧ resSteadyStates_1 p xs i = 0) := by
        have : insC p xs i = 0 := by unfold insC; simp [hb, hb1]
        exact ⟨by unfold resSteadyStates_0; rw [if_pos this], this⟩
      have HS := Lib.hid (fun w' (h : Below w.heap.size w w') => steadyStates_any p i v xs w' (ha.keep h) hb hb1)
      obtain ⟨a, ca, rfl, hm, _⟩ := ha
      have k0 := C2.here w (.int .i64 p) (.slice a xs.length ca) 27
      clear hb hb1
      generalize stdTo p xs i (2 ^ xs.length) = l at *
      generalize xs.length = n at *
      go_enter Try.func29, Try.ntmps29
      go_wp2_with (first | (go_at_call 18; (with_reducible refine (HC.out _ (by go_grown)).mono ?_); rintro e w' ⟨rfl, hb⟩; have hL := chain (B := w.heap.size) (a := w) (by go_grown) (Nat.le_refl _) hb; (first | replace k0 := keepAt hb k0 | replace k0 := keepAt hb (C2.alloc k0 _)); clear hb) | (go_at_call 65; (with_reducible refine (HI.out _ (by go_grown)).mono ?_); rintro e w' ⟨rfl, hb⟩; have hL := chain (B := w.heap.size) (a := w) (by go_grown) (Nat.le_refl _) hb; (first | replace k0 := keepAt hb k0 | replace k0 := keepAt hb (C2.alloc k0 _)); clear hb))
      refine (HS.out _ hL).mono ?_
      rintro e w2 ⟨u, rfl, ou, hb⟩
      have hs1 := hL.size
      have hL2 := chain (B := w.heap.size) (a := w) hL (Nat.le_refl _) hb
      clear hb
      go_wp2_with fail
      go_ret2
      exact ⟨u, by rw [HR.out.2]; rfl, by rw [HR.out.1]; exact In.of ou hs1 (Nat.le_refl _), hL2⟩

set_option maxRecDepth 100000 in
set_option maxHeartbeats 2000000 in
theorem sSteadyStates_any (p : Int) (v : Value) (xs : List Int) (i : Int) (w : World) (ha : Reads w v xs) :
    Calls Try.prog 28 #[.agg #[.int .i64 p, v], .int .i64 i] w fun e w' => ∃ u, e = .returned (.tuple #[u, .int .i64 (resSteadyStates_1 p xs i)]) ∧ Reads w' u (resSteadyStates_0 p xs i) ∧ Below w.heap.size w w' := by
  obtain ⟨i0, hi0, hz0, hz1, hz2⟩ := info_parts info64
  obtain ⟨c, hc⟩ : ∃ c, insC p xs i = c := ⟨_, rfl⟩
  have HE := Lib.hid (fun w' (h : Below w.heap.size w w') => l06Code_any p i v (.slice none 0 0) xs [] w' (ha.keep h) (inNil _ 0 0).reads (c := c) (by rw [codeL_nil]; exact hc))
  by_cases h0 : c = 0
  · subst h0
    obtain ⟨h1, h2⟩ := insC_zero hc
    have HR : Hid (resSteadyStates_0 p xs i = stdTo p xs i (2 ^ xs.length) ∧ resSteadyStates_1 p xs i = 0) := ⟨by unfold resSteadyStates_0; rw [if_pos hc], hc⟩
    obtain ⟨_, ⟨n1, n4⟩, _, _⟩ := cirB_out h1
    obtain ⟨M, hM⟩ : ∃ M, 2 ^ xs.length = M := ⟨_, rfl⟩
    have hM16 : M ≤ 16 := by rw [← hM]; exact Nat.pow_le_pow_right (by decide) n4
    have HIn : Hid (∀ k : Nat, k < M → inB (k : Int) xs.length = true) := fun k hk => by
      unfold inB rcZ; rw [Int.toNat_natCast, hM]; exact decide_eq_true (by omega)
    have HC : Hid (∀ w', Below w.heap.size w w' → Calls Try.prog 64 #[.agg #[.int .i64 p, v]] w' fun e w'' => e = .returned (.int .i64 (M : Int)) ∧ Below w'.heap.size w' w'') := fun w' h => by
      have := l06States_any p v xs w' (ha.keep h) n1 n4
      unfold rcZ at this; rw [Int.toNat_natCast, hM] at this; exact this
    have HA := Lib.hid (fun (k : Nat) (hk : k < M) w' (h : Below w.heap.size w w') => l06Aim_any p i (k : Int) v xs w' (ha.keep h) h1 h2 (HIn.out k hk))
    rw [hM] at HR
    have hS0 : stdTo p xs i 0 = [] := rfl
    obtain ⟨a, ca, rfl, hm, ha'⟩ := ha
    have k0 := C2.here w (.int .i64 p) (.slice a xs.length ca) 27
    clear hc h1 h2 ha' hM
    generalize xs.length = n at *
    go_enter Try.func28, Try.ntmps28
    go_wp2_with ((go_at_call 58; (with_reducible refine (HE.out _ (by go_grown)).mono ?_); rintro e w' ⟨rfl, hb⟩; have hL := chain (B := w.heap.size) (a := w) (by go_grown) (Nat.le_refl _) hb; (first | replace k0 := keepAt hb k0 | replace k0 := keepAt hb (C2.alloc k0 _)); clear hb))
    have hsz := hL.size
    have hkb := k0.2.2.2.2
    have oo : Owns (w'.alloc (.cells #[] 2)) (w.heap.size + 1) (.slice (some ⟨w'.heap.size, 0, none⟩) 0 0) (stdTo p xs i 0) := by
      have h := World.ownsRow_made (base := w.heap.size + 1) (e := 2) (size := 1) w' #[] 0 (by omega) (by simp) rfl
      exact h
    have HOO := Lib.hid oo
    clear oo
    go_loopw [7, 8] (fun u c wr => ∃ k : Nat, k ≤ M ∧ c = .int .i64 (k : Int) ∧ Below w.heap.size w wr ∧ C2 wr w.heap.size (.int .i64 p) (.slice a n ca) ∧ Owns wr (w.heap.size + 1) u (stdTo p xs i k)) (fun _ c _ => M - (intOf c).toNat)
    case atStart => exact ⟨0, Nat.zero_le _, rfl, by go_grown, k0.alloc _, HOO.out⟩
    case round =>
      clear k0 hL HOO hsz hkb
      obtain ⟨k, hk, rfl, hL, k0, oo⟩ := hrel
      have hkb := k0.2.2.2.2
      by_cases hlt : k < M
      · have hk1 : (k : Int) < (M : Int) := by omega
        have HAk := Lib.hid (HA.out k hlt)
        go_wp2_with fail
        refine (HC.out _ hL).mono ?_
        rintro e w1 ⟨rfl, hb⟩
        replace hL := chain (B := w.heap.size) (a := w) hL (Nat.le_refl _) hb
        replace k0 := keepAt hb k0
        replace oo := ownsKeepAt hb oo
        clear hb
        go_wp2_with fail
        refine (HAk.out _ hL).mono ?_
        rintro e w2 ⟨rfl, hb⟩
        replace hL := chain (B := w.heap.size) (a := w) hL (Nat.le_refl _) hb
        replace k0 := keepAt hb k0
        replace oo := ownsKeepAt hb oo
        clear hb
        have hz' := hL.size
        have hfrom := oo.rowsFrom (B := w.heap.size) (by omega)
        have hsep := oo.notBlock (b := w.heap.size) (by omega)
        have hkb2 := k0.2.2.2.2
        cases hq : (aimZ p xs i (k : Int) == (k : Int))
        · have Hn := Lib.hid (stdTo_miss hq)
          go_wp2_with fail
          exact ⟨⟨k + 1, by omega, by go_num, hL, k0, by rw [Hn.out]; exact oo⟩, by simp [intOf]; omega⟩
        · have Hn := Lib.hid (stdTo_hit hq)
          have Hl := Lib.hid (stdTo_len p xs i k)
          go_wp2_with (at_builtin; refine wpList_append_own _ rfl _ _ 22 rfl (w.heap.size + 1) 2 i0 (.int .i64 0) 1 8 Try.underlying22 hi0 hz0 hz1 hz2 rfl (by decide) _ _ _ rfl (World.ownsRow.alloc oo _) ⟨w2.heap.size, 0, none⟩ 1 1 [.int .i64 (k : Int)] rfl rfl (cell_one_new _ _ _) (by simp [Value.oneCell']) (by have := Hl.out; unfold maxLen; omega) (by have := Hl.out; omega) (by have := hL.size; simp; omega) ?_; intro v' w3 hown' hgrow hnil)
          exact ⟨⟨k + 1, by omega, by go_num, (hL.alloc (by omega) _).grown hgrow (by simp; omega) hfrom, (k0.alloc _).grown hgrow hsep, by rw [Hn.out]; exact Owns.snoc hown'⟩, by simp [intOf]; omega⟩
      · have e : k = M := by omega
        rw [e] at oo
        clear e
        have hkn : ¬ (k : Int) < (M : Int) := by omega
        go_wp2_with fail
        refine (HC.out _ hL).mono ?_
        rintro e w1 ⟨rfl, hb⟩
        replace hL := chain (B := w.heap.size) (a := w) hL (Nat.le_refl _) hb
        replace oo := ownsKeepAt hb oo
        clear hb
        go_wp2_with fail
        go_ret2
        exact ⟨_, by rw [HR.out.2]; rfl, by rw [HR.out.1]; exact oo.reads, hL⟩
  · have HR : Hid (resSteadyStates_0 p xs i = [] ∧ resSteadyStates_1 p xs i = c) := ⟨by unfold resSteadyStates_0; rw [if_neg (by rw [hc]; exact h0)], hc⟩
    have hne : (c != 0) = true := by simp [h0]
    obtain ⟨a, ca, rfl, hm, ha'⟩ := ha
    have k0 := C2.here w (.int .i64 p) (.slice a xs.length ca) 27
    clear hc h0 ha'
    generalize xs.length = n at *
    go_enter Try.func28, Try.ntmps28
    go_wp2_with ((go_at_call 58; (with_reducible refine (HE.out _ (by go_grown)).mono ?_); rintro e w' ⟨rfl, hb⟩; have hL := chain (B := w.heap.size) (a := w) (by go_grown) (Nat.le_refl _) hb; (first | replace k0 := keepAt hb k0 | replace k0 := keepAt hb (C2.alloc k0 _)); clear hb))
    go_ret2
    exact ⟨_, by rw [HR.out.2]; rfl, by rw [HR.out.1]; exact (inNil _ 0 0).reads, hL⟩

end Go.Proofs.Ytblbapehakcomaa
