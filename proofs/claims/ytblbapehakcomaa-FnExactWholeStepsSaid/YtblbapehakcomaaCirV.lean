/- WholeSteps: the program's and the model's. -/
import Derived.Test.YtblbapehakcomaaCirL
namespace Go.Proofs.Ytblbapehakcomaa
open Go.RowKit
set_option linter.unusedVariables false

def wsAt (p : Int) (xs : List Int) (i s : Int) : Nat → Int
  | 0 => s
  | k + 1 => aimZ p xs i (wsAt p xs i s k)
def wsL (p : Int) (xs : List Int) (i s : Int) (k : Nat) : List Int := (List.range (k + 1)).map (wsAt p xs i s)
theorem wsL_zero (p : Int) (xs : List Int) (i s : Int) : wsL p xs i s 0 = [s] := rfl
theorem wsL_succ (p : Int) (xs : List Int) (i s : Int) (k : Nat) : wsL p xs i s (k + 1) = wsL p xs i s k ++ [wsAt p xs i s (k + 1)] := by
  unfold wsL; rw [List.range_succ, List.map_append]; rfl
theorem wsL_len (p : Int) (xs : List Int) (i s : Int) (k : Nat) : (wsL p xs i s k).length = k + 1 := by simp [wsL]
theorem wsAt_in {p i s : Int} {xs : List Int} (h : inB s xs.length = true) (k : Nat) : inB (wsAt p xs i s k) xs.length = true := by
  cases k with
  | zero => exact h
  | succ k => exact aimZ_in
def inK (k : Int) : Bool := decide (0 ≤ k ∧ k < 101)
def wsC (p : Int) (xs : List Int) (i s k : Int) : Int := if sitC p xs i s = 0 then (if inK k = true then 0 else 2) else sitC p xs i s
def resWholeSteps_0 (p : Int) (xs : List Int) (i s k : Int) : List Int := if wsC p xs i s k = 0 then wsL p xs i s k.toNat else []
def resWholeSteps_1 (p : Int) (xs : List Int) (i s k : Int) : Int := wsC p xs i s k
theorem wsC_zero {p i s k : Int} {xs : List Int} (h : wsC p xs i s k = 0) : sitC p xs i s = 0 ∧ inK k = true := by
  unfold wsC at h
  by_cases h1 : sitC p xs i s = 0
  · rw [if_pos h1] at h
    by_cases h2 : inK k = true
    · exact ⟨h1, h2⟩
    · rw [if_neg h2] at h; cases h
  · rw [if_neg h1] at h; exact absurd h h1
theorem lenWholeSteps_0 (p : Int) (xs : List Int) (i s k : Int) : (resWholeSteps_0 p xs i s k).length ≤ 100000 := by
  unfold resWholeSteps_0
  by_cases h : wsC p xs i s k = 0
  · rw [if_pos h, wsL_len]
    have := of_decide_eq_true (show decide (0 ≤ k ∧ k < 101) = true from (wsC_zero h).2)
    omega
  · rw [if_neg h]; simp

set_option maxRecDepth 100000 in
set_option maxHeartbeats 2000000 in
theorem iWholeSteps_any (p : Int) (v : Value) (xs : List Int) (i s k : Int) (w : World) (ha : Reads w v xs) :
    Calls Try.prog 37 #[.agg #[.int .i64 p, v], .int .i64 i, .int .i64 s, .int .i64 k] w fun e w' => ∃ u, e = .returned (.tuple #[u, .int .i64 (resWholeSteps_1 p xs i s k)]) ∧ In w' w.heap.size w'.heap.size u (resWholeSteps_0 p xs i s k) ∧ Below w.heap.size w w' := by
  obtain ⟨i0, hi0, hz0, hz1, hz2⟩ := info_parts info64
  obtain ⟨c, hc⟩ : ∃ c, sitC p xs i s = c := ⟨_, rfl⟩
  have HE := Lib.hid (fun w' (h : Below w.heap.size w w') => situationError_any p i s v xs w' (ha.keep h) hc)
  by_cases h0 : c = 0
  · subst h0
    obtain ⟨b, hb⟩ : ∃ b, inK k = b := ⟨_, rfl⟩
    have HK := Lib.hid (fun w => isBelowC k 101 w (b := b) hb)
    cases b
    · have HR : Hid (resWholeSteps_0 p xs i s k = [] ∧ resWholeSteps_1 p xs i s k = 2) := by
        have : wsC p xs i s k = 2 := by unfold wsC; rw [if_pos hc, hb]; rfl
        exact ⟨by unfold resWholeSteps_0; rw [this]; rfl, this⟩
      obtain ⟨a, ca, rfl, hm, _⟩ := ha
      have k0 := C2.here w (.int .i64 p) (.slice a xs.length ca) 27
      clear hb hc
      generalize xs.length = n at *
      go_enter Try.func37, Try.ntmps37
      go_wp2_with (first | (go_at_call 60; (with_reducible refine (HE.out _ (by go_grown)).mono ?_); rintro e w' ⟨rfl, hb⟩; have hL := chain (B := w.heap.size) (a := w) (by go_grown) (Nat.le_refl _) hb; (first | replace k0 := keepAt hb k0 | replace k0 := keepAt hb (C2.alloc k0 _)); clear hb) | (go_at_call 75; (with_reducible refine (HK.out _).mono ?_); rintro e w' ⟨rfl, rfl⟩))
      go_ret2
      exact ⟨_, by rw [HR.out.2]; rfl, by rw [HR.out.1]; exact inNil _ _ _, hL⟩
    · obtain ⟨h1, h2, h3⟩ := sitC_zero hc
      have hkb : 0 ≤ k ∧ k < 101 := of_decide_eq_true (show decide (0 ≤ k ∧ k < 101) = true from hb)
      obtain ⟨K, rfl⟩ := Int.eq_ofNat_of_zero_le hkb.1
      have HR : Hid (resWholeSteps_0 p xs i s K = wsL p xs i s K ∧ resWholeSteps_1 p xs i s K = 0) := by
        have : wsC p xs i s K = 0 := by unfold wsC; rw [if_pos hc, if_pos hb]
        exact ⟨by unfold resWholeSteps_0; rw [if_pos this, Int.toNat_natCast], this⟩
      have HA := Lib.hid (fun (j : Nat) w' (h : Below w.heap.size w w') => aimIn_any p i (wsAt p xs i s j) v xs w' (ha.keep h) h1 h2 (wsAt_in h3 j))
      have HW0 : Hid (wsAt p xs i s 0 = s) := rfl
      have hK101 : K < 101 := by omega
      obtain ⟨a, ca, rfl, hm, _⟩ := ha
      have k0 := C2.here w (.int .i64 p) (.slice a xs.length ca) 27
      clear hb hc h1 h2 h3 hkb
      generalize xs.length = n at *
      go_enter Try.func37, Try.ntmps37
      go_wp2_with (first | (go_at_call 60; (with_reducible refine (HE.out _ (by go_grown)).mono ?_); rintro e w' ⟨rfl, hb⟩; have hL := chain (B := w.heap.size) (a := w) (by go_grown) (Nat.le_refl _) hb; (first | replace k0 := keepAt hb k0 | replace k0 := keepAt hb (C2.alloc k0 _)); clear hb) | (go_at_call 75; (with_reducible refine (HK.out _).mono ?_); rintro e w' ⟨rfl, rfl⟩))
      have hsz := hL.size
      have hkb := k0.2.2.2.2
      have HOO : Hid (Owns (w'.alloc (.cells #[.int .i64 s] 2)) (w.heap.size + 1) (.slice (some ⟨w'.heap.size, 0, none⟩) 1 1) (wsL p xs i s 0)) :=
        ownsOne w' s (w.heap.size + 1) (by omega)
      go_loopw [2, 11, 25] (fun st u c wr => ∃ j : Nat, j ≤ K ∧ c = .int .i64 (j : Int) ∧ st = .int .i64 (wsAt p xs i s j) ∧ Below w.heap.size w wr ∧ C2 wr w.heap.size (.int .i64 p) (.slice a n ca) ∧ Owns wr (w.heap.size + 1) u (wsL p xs i s j)) (fun _ _ c _ => K - (intOf c).toNat)
      case atStart => exact ⟨0, Nat.zero_le _, rfl, rfl, by go_grown, k0.alloc _, HOO.out⟩
      case round =>
        clear k0 hL HOO hsz hkb
        obtain ⟨j, hj, rfl, rfl, hL, k0, oo⟩ := hrel
        have hkb := k0.2.2.2.2
        by_cases hlt : j < K
        · have hk1 : (j : Int) < (K : Int) := by omega
          have Hst : Hid (aimZ p xs i (wsAt p xs i s j) = wsAt p xs i s (j + 1)) := rfl
          have HAj := Lib.hid (HA.out j)
          have Hn := Lib.hid (wsL_succ p xs i s j)
          have Hl := Lib.hid (wsL_len p xs i s j)
          go_wp2_with fail
          refine (HAj.out _ hL).mono ?_
          rintro e w1 ⟨rfl, hb⟩
          replace hL := chain (B := w.heap.size) (a := w) hL (Nat.le_refl _) hb
          replace k0 := keepAt hb k0
          replace oo := ownsKeepAt hb oo
          clear hb
          rw [Hst.out]
          have hz' := hL.size
          have hfrom := oo.rowsFrom (B := w.heap.size) (by omega)
          have hsep := oo.notBlock (b := w.heap.size) (by omega)
          have hkb2 := k0.2.2.2.2
          go_wp2_with (at_builtin; refine wpList_append_own _ rfl _ _ 22 rfl (w.heap.size + 1) 2 i0 (.int .i64 0) 1 8 Try.underlying22 hi0 hz0 hz1 hz2 rfl (by decide) _ _ _ rfl (World.ownsRow.alloc oo _) ⟨w1.heap.size, 0, none⟩ 1 1 [.int .i64 (wsAt p xs i s (j + 1))] rfl rfl (cell_one_new _ _ _) (by simp [Value.oneCell']) (by have := Hl.out; unfold maxLen; omega) (by have := Hl.out; omega) (by have := hL.size; simp; omega) ?_; intro v' w3 hown' hgrow hnil)
          exact ⟨⟨j + 1, by omega, by go_num, rfl, (hL.alloc (by omega) _).grown hgrow (by simp; omega) hfrom, (k0.alloc _).grown hgrow hsep, by rw [Hn.out]; exact Owns.snoc hown'⟩, by simp [intOf]; omega⟩
        · have e : j = K := by omega
          rw [e] at oo
          clear e
          have hkn : ¬ (j : Int) < (K : Int) := by omega
          go_wp2_with fail
          go_ret2
          exact ⟨_, by rw [HR.out.2]; rfl, by rw [HR.out.1]; exact In.of oo (by omega) (Nat.le_refl _), hL⟩
  · have HR : Hid (resWholeSteps_0 p xs i s k = [] ∧ resWholeSteps_1 p xs i s k = c) := by
      have : wsC p xs i s k = c := by unfold wsC; rw [if_neg (by rw [hc]; exact h0), hc]
      exact ⟨by unfold resWholeSteps_0; rw [if_neg (by rw [this]; exact h0)], this⟩
    have hne : (c != 0) = true := by simp [h0]
    obtain ⟨a, ca, rfl, hm, _⟩ := ha
    have k0 := C2.here w (.int .i64 p) (.slice a xs.length ca) 27
    clear hc h0
    generalize xs.length = n at *
    go_enter Try.func37, Try.ntmps37
    go_wp2_with ((go_at_call 60; (with_reducible refine (HE.out _ (by go_grown)).mono ?_); rintro e w' ⟨rfl, hb⟩; have hL := chain (B := w.heap.size) (a := w) (by go_grown) (Nat.le_refl _) hb; (first | replace k0 := keepAt hb k0 | replace k0 := keepAt hb (C2.alloc k0 _)); clear hb))
    go_ret2
    exact ⟨_, by rw [HR.out.2]; rfl, by rw [HR.out.1]; exact inNil _ _ _, hL⟩

set_option maxRecDepth 100000 in
set_option maxHeartbeats 2000000 in
theorem sWholeSteps_any (p : Int) (v : Value) (xs : List Int) (i s k : Int) (w : World) (ha : Reads w v xs) :
    Calls Try.prog 36 #[.agg #[.int .i64 p, v], .int .i64 i, .int .i64 s, .int .i64 k] w fun e w' => ∃ u, e = .returned (.tuple #[u, .int .i64 (resWholeSteps_1 p xs i s k)]) ∧ Reads w' u (resWholeSteps_0 p xs i s k) ∧ Below w.heap.size w w' := by
  obtain ⟨i0, hi0, hz0, hz1, hz2⟩ := info_parts info64
  obtain ⟨c, hc⟩ : ∃ c, sitC p xs i s = c := ⟨_, rfl⟩
  have HE := Lib.hid (fun w' vs (h : Below w.heap.size w w') (hs : Reads w' vs [s]) => l06Code_any p i v vs xs [s] w' (ha.keep h) hs (c := c) (by rw [codeL_one]; exact hc))
  obtain ⟨a, ca, rfl, hm, ha'⟩ := ha
  have ha : Reads w (.slice a xs.length ca) xs := ⟨a, ca, rfl, hm, ha'⟩
  clear ha'
  have HO := Lib.hid (reads_one (w.alloc (.cells #[.int .i64 p, .slice a xs.length ca] 27)) s 2)
  have k0 := (C2.here w (.int .i64 p) (.slice a xs.length ca) 27).alloc (.cells #[.int .i64 s] 2)
  by_cases h0 : c = 0
  · subst h0
    obtain ⟨b, hb⟩ : ∃ b, inK k = b := ⟨_, rfl⟩
    have HK := Lib.hid (fun w => l01In_any k 0 100 w)
    have hbe : decide (0 ≤ k ∧ k ≤ 100) = b := by rw [← hb]; unfold inK; rw [decide_eq_decide]; omega
    rw [hbe] at HK
    cases b
    · have HR : Hid (resWholeSteps_0 p xs i s k = [] ∧ resWholeSteps_1 p xs i s k = 2) := by
        have : wsC p xs i s k = 2 := by unfold wsC; rw [if_pos hc, hb]; rfl
        exact ⟨by unfold resWholeSteps_0; rw [this]; rfl, this⟩
      clear hb hc ha hbe
      generalize xs.length = n at *
      go_enter Try.func36, Try.ntmps36
      go_wp2_with (first | (go_at_call 58; (with_reducible refine (HE.out _ _ (by go_grown) (by simpa using HO.out)).mono ?_); rintro e w' ⟨rfl, hb⟩; have hL := chain (B := w.heap.size) (a := w) (by go_grown) (Nat.le_refl _) hb; (first | replace k0 := keepAt hb k0 | replace k0 := keepAt hb (C2.alloc k0 _)); clear hb) | (go_at_call 74; (with_reducible refine (HK.out _).mono ?_); rintro e w' ⟨rfl, rfl⟩))
      go_ret2
      exact ⟨_, by rw [HR.out.2]; rfl, by rw [HR.out.1]; exact (inNil _ 0 0).reads, hL⟩
    · obtain ⟨h1, h2, h3⟩ := sitC_zero hc
      have hkb : 0 ≤ k ∧ k < 101 := of_decide_eq_true (show decide (0 ≤ k ∧ k < 101) = true from hb)
      obtain ⟨K, rfl⟩ := Int.eq_ofNat_of_zero_le hkb.1
      have HR : Hid (resWholeSteps_0 p xs i s K = wsL p xs i s K ∧ resWholeSteps_1 p xs i s K = 0) := by
        have : wsC p xs i s K = 0 := by unfold wsC; rw [if_pos hc, if_pos hb]
        exact ⟨by unfold resWholeSteps_0; rw [if_pos this, Int.toNat_natCast], this⟩
      have HA := Lib.hid (fun (j : Nat) w' (h : Below w.heap.size w w') => l06Aim_any p i (wsAt p xs i s j) _ xs w' (ha.keep h) h1 h2 (wsAt_in h3 j))
      have HW0 : Hid (wsAt p xs i s 0 = s) := rfl
      have hK101 : K < 101 := by omega
      clear hb hc h1 h2 h3 hkb ha hbe
      generalize xs.length = n at *
      go_enter Try.func36, Try.ntmps36
      go_wp2_with (first | (go_at_call 58; (with_reducible refine (HE.out _ _ (by go_grown) (by simpa using HO.out)).mono ?_); rintro e w' ⟨rfl, hb⟩; have hL := chain (B := w.heap.size) (a := w) (by go_grown) (Nat.le_refl _) hb; (first | replace k0 := keepAt hb k0 | replace k0 := keepAt hb (C2.alloc k0 _)); clear hb) | (go_at_call 74; (with_reducible refine (HK.out _).mono ?_); rintro e w' ⟨rfl, rfl⟩))
      have hsz := hL.size
      have hkb := k0.2.2.2.2
      have HOO : Hid (Owns (w'.alloc (.cells #[.int .i64 s] 2)) (w.heap.size + 1) (.slice (some ⟨w'.heap.size, 0, none⟩) 1 1) (wsL p xs i s 0)) :=
        ownsOne w' s (w.heap.size + 1) (by omega)
      go_loopw [2, 3, 11] (fun st c u wr => ∃ j : Nat, j ≤ K ∧ c = .int .i64 ((K - j : Nat) : Int) ∧ st = .int .i64 (wsAt p xs i s j) ∧ Below w.heap.size w wr ∧ C2 wr w.heap.size (.int .i64 p) (.slice a n ca) ∧ Owns wr (w.heap.size + 1) u (wsL p xs i s j)) (fun _ c _ _ => (intOf c).toNat)
      case atStart => exact ⟨0, Nat.zero_le _, rfl, rfl, by go_grown, k0.alloc _, HOO.out⟩
      case round =>
        clear k0 hL HOO hsz hkb
        obtain ⟨j, hj, rfl, rfl, hL, k0, oo⟩ := hrel
        have hkb := k0.2.2.2.2
        by_cases hlt : j < K
        · obtain ⟨d, hd⟩ : ∃ d, K - j = d + 1 := ⟨K - j - 1, by omega⟩
          have hd2 : K - (j + 1) = d := by omega
          rw [hd]
          have hk1 : (0 : Int) < ((d + 1 : Nat) : Int) := by omega
          have Hst : Hid (aimZ p xs i (wsAt p xs i s j) = wsAt p xs i s (j + 1)) := rfl
          have HAj := Lib.hid (HA.out j)
          have Hn := Lib.hid (wsL_succ p xs i s j)
          have Hl := Lib.hid (wsL_len p xs i s j)
          have Hd2 := Lib.hid hd2
          have hdm : d < 101 := by omega
          clear hd hd2
          go_wp2_with fail
          refine (HAj.out _ hL).mono ?_
          rintro e w1 ⟨rfl, hb⟩
          replace hL := chain (B := w.heap.size) (a := w) hL (Nat.le_refl _) hb
          replace k0 := keepAt hb k0
          replace oo := ownsKeepAt hb oo
          clear hb
          rw [Hst.out]
          have hz' := hL.size
          have hfrom := oo.rowsFrom (B := w.heap.size) (by omega)
          have hsep := oo.notBlock (b := w.heap.size) (by omega)
          have hkb2 := k0.2.2.2.2
          go_wp2_with (at_builtin; refine wpList_append_own _ rfl _ _ 22 rfl (w.heap.size + 1) 2 i0 (.int .i64 0) 1 8 Try.underlying22 hi0 hz0 hz1 hz2 rfl (by decide) _ _ _ rfl (World.ownsRow.alloc oo _) ⟨w1.heap.size, 0, none⟩ 1 1 [.int .i64 (wsAt p xs i s (j + 1))] rfl rfl (cell_one_new _ _ _) (by simp [Value.oneCell']) (by have := Hl.out; unfold maxLen; omega) (by have := Hl.out; omega) (by have := hL.size; simp; omega) ?_; intro v' w3 hown' hgrow hnil)
          exact ⟨⟨j + 1, by omega, (by rw [Hd2.out]), rfl, (hL.alloc (by omega) _).grown hgrow (by simp; omega) hfrom, (k0.alloc _).grown hgrow hsep, by rw [Hn.out]; exact Owns.snoc hown'⟩, (by simp [intOf])⟩
        · have e : j = K := by omega
          rw [e] at oo
          have e2 : K - j = 0 := by omega
          rw [e2]
          clear e e2
          go_wp2_with fail
          go_ret2
          exact ⟨_, by rw [HR.out.2]; rfl, by rw [HR.out.1]; exact oo.reads, hL⟩
  · have HR : Hid (resWholeSteps_0 p xs i s k = [] ∧ resWholeSteps_1 p xs i s k = c) := by
      have : wsC p xs i s k = c := by unfold wsC; rw [if_neg (by rw [hc]; exact h0), hc]
      exact ⟨by unfold resWholeSteps_0; rw [if_neg (by rw [this]; exact h0)], this⟩
    have hne : (c != 0) = true := by simp [h0]
    have hne2 : (c == 0) = false := by simp [h0]
    clear hc h0 ha
    generalize xs.length = n at *
    go_enter Try.func36, Try.ntmps36
    go_wp2_with ((go_at_call 58; (with_reducible refine (HE.out _ _ (by go_grown) (by simpa using HO.out)).mono ?_); rintro e w' ⟨rfl, hb⟩; have hL := chain (B := w.heap.size) (a := w) (by go_grown) (Nat.le_refl _) hb; (first | replace k0 := keepAt hb k0 | replace k0 := keepAt hb (C2.alloc k0 _)); clear hb))
    go_ret2
    exact ⟨_, by rw [HR.out.2]; rfl, by rw [HR.out.1]; exact (inNil _ 0 0).reads, hL⟩

end Go.Proofs.Ytblbapehakcomaa
