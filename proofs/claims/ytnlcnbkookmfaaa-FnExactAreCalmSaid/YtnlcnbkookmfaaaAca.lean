/- AreCalm: the program's and the model's. -/
import Derived.Test.YtnlcnbkookmfaaaClm
namespace Go.Proofs.Ytnlcnbkookmfaaa
open Go.RowKit
set_option linter.unusedVariables false

theorem noCode_any (x : Int) (w : World) :
    Calls Try.prog 93 (#[.int .i64 x] ++ #[]) w fun e w' => e = .returned (.bool (!(bel x 16))) ∧ Below w.heap.size w w' := by
  have HR := Lib.hid (fun w => rowCount_any 4 w (by decide) (by decide))
  have HB := Lib.hid (fun w => isBelowH x (rcZ 4) w (b := bel x 16) rfl)
  generalize bel x 16 = b at *
  generalize rcZ 4 = q at *
  go_enter Try.func93, Try.ntmps93
  go_wp2_with (first | (go_at_call 75; (with_reducible refine (HR.out _).mono ?_); rintro e w' ⟨rfl, rfl⟩) | (go_at_call 60; (with_reducible refine (HB.out _).mono ?_); rintro e w' ⟨rfl, rfl⟩))
  go_ret
  exact ⟨rfl, Below.refl _ _⟩
instance (cs : List Int) : Decidable (Cod cs) := by unfold Cod; infer_instance
theorem cod_contains (cs : List Int) : decide (∃ i, i < cs.length ∧ (!(bel (cs.getD i 0) 16)) = true) = !(decide (Cod cs)) := by
  by_cases h : Cod cs
  · rw [decide_eq_true h]
    refine decide_eq_false fun ⟨i, hi, hx⟩ => ?_
    unfold bel at hx
    rw [decide_eq_true (h i hi)] at hx
    cases hx
  · rw [decide_eq_false h]
    refine decide_eq_true (Classical.byContradiction fun hno => h fun i hi => Classical.byContradiction fun hx => hno ⟨i, hi, ?_⟩)
    unfold bel
    rw [decide_eq_false hx]; rfl

noncomputable def resAreCalm_0 (p : Int) (xss yss : List (List Int)) (cs : List Int) : Bool := if chaB p xss yss = true ∧ cs.length = xss.length ∧ Cod cs then calmB xss cs else false
def resAreCalm_1 (p : Int) (xss yss : List (List Int)) (cs : List Int) : Int := if chaB p xss yss = true then (if cs.length = xss.length ∧ Cod cs then 0 else 2) else 1

set_option maxRecDepth 100000 in
set_option maxHeartbeats 2000000 in
theorem iAreCalm_any (v : Value) (p : Int) (xss yss : List (List Int)) (vs : Value) (cs : List Int) (w : World) (ha : ReadsH w v p xss yss) (hs : ReadsF w vs cs) :
    Calls Try.prog 50 #[v, vs] w fun e w' => e = .returned (.tuple #[.bool (resAreCalm_0 p xss yss cs), .int .i64 (resAreCalm_1 p xss yss cs)]) ∧ Below w.heap.size w w' := by
  obtain ⟨b, hb⟩ : ∃ b, chaB p xss yss = b := ⟨_, rfl⟩
  have HC := Lib.hid (fun w' (h : Below w.heap.size w w') => isChart_any v p xss yss w' (ha.keep h) hb)
  have ha' := ha
  have hs' := hs
  obtain ⟨⟨sa, sc, rfl, hsm, _⟩, -⟩ := hs
  unfold maxLen at hsm
  cases b
  · have HR : Hid (resAreCalm_0 p xss yss cs = false ∧ resAreCalm_1 p xss yss cs = 1) := by
      unfold resAreCalm_0 resAreCalm_1; rw [hb]; exact ⟨rfl, rfl⟩
    obtain ⟨a, ca, b', cb, rfl, _, _⟩ := ha
    have h0 := C3.here w (.int .i64 p) (.slice a xss.length ca) (.slice b' yss.length cb) 27
    clear hb ha' hs'
    generalize xss.length = n at *
    generalize yss.length = m at *
    generalize cs.length = l at *
    go_enter Try.func50, Try.ntmps50
    go_wp2_with ((go_at_call 18; (with_reducible refine (HC.out _ (by go_grown)).mono ?_); rintro e w' ⟨rfl, hb⟩; have hL := chain (B := w.heap.size) (a := w) (by go_grown) (Nat.le_refl _) hb; (first | replace h0 := keepAt3 hb h0 | replace h0 := keepAt3 hb (C3.alloc h0 _)); clear hb))
    go_ret2
    exact ⟨by rw [HR.out.1, HR.out.2]; rfl, hL⟩
  · have HCF := Lib.hid (fun w' (h : Below w.heap.size w w') => containsFunc_any (.slice sa cs.length sc) cs 93 #[] (fun x => !(bel x 16)) w' (hs'.1.keep h) (fun x wx _ => noCode_any x wx) (enters_of Try.func93 (by kernel_rfl) rfl) (cod_contains cs))
    obtain ⟨n1, n8⟩ := (chaB_out hb).1
    by_cases hl : cs.length = xss.length
    · have hl8 : cs.length ≤ 8 := by omega
      have hd : (((cs.length : Nat) : Int) != ((xss.length : Nat) : Int)) = false := by simp [hl]
      by_cases hc : Cod cs
      · have HAC := Lib.hid (fun w' (h : Below w.heap.size w w') => areCalm_any v _ p xss yss cs w' (ha'.keep h) (hs'.keep h) hb hl hc)
        have HR : Hid (resAreCalm_0 p xss yss cs = calmB xss cs ∧ resAreCalm_1 p xss yss cs = 0) := by
          unfold resAreCalm_0 resAreCalm_1; rw [if_pos hb, if_pos ⟨hb, hl, hc⟩, if_pos ⟨hl, hc⟩]; exact ⟨rfl, rfl⟩
        rw [decide_eq_true hc] at HCF
        obtain ⟨a, ca, b', cb, rfl, _, _⟩ := ha
        have h0 := C3.here w (.int .i64 p) (.slice a xss.length ca) (.slice b' yss.length cb) 27
        clear hb ha' hs' hl hc
        generalize calmB xss cs = bR at *
        generalize xss.length = n at *
        generalize yss.length = m at *
        generalize cs.length = l at *
        go_enter Try.func50, Try.ntmps50
        go_wp2_with (first | (go_at_call 18; (with_reducible refine (HC.out _ (by go_grown)).mono ?_); rintro e w' ⟨rfl, hb⟩; have hL := chain (B := w.heap.size) (a := w) (by go_grown) (Nat.le_refl _) hb; (first | replace h0 := keepAt3 hb h0 | replace h0 := keepAt3 hb (C3.alloc h0 _)); clear hb) | (go_at_call 63; (with_reducible refine (HCF.out _ (by go_grown)).mono ?_); rintro e w' ⟨rfl, hb⟩; have hL := chain (B := w.heap.size) (a := w) (by go_grown) (Nat.le_refl _) hb; (first | replace h0 := keepAt3 hb h0 | replace h0 := keepAt3 hb (C3.alloc h0 _)); clear hb) | (go_at_call 94; (with_reducible refine (HAC.out _ (by go_grown)).mono ?_); rintro e w' ⟨rfl, hb⟩; have hL := chain (B := w.heap.size) (a := w) (by go_grown) (Nat.le_refl _) hb; (first | replace h0 := keepAt3 hb h0 | replace h0 := keepAt3 hb (C3.alloc h0 _)); clear hb))
        go_ret2
        exact ⟨by rw [HR.out.1, HR.out.2]; rfl, hL⟩
      · have HR : Hid (resAreCalm_0 p xss yss cs = false ∧ resAreCalm_1 p xss yss cs = 2) := by
          unfold resAreCalm_0 resAreCalm_1; rw [if_pos hb, if_neg (fun h => hc h.2.2), if_neg (fun h => hc h.2)]; exact ⟨rfl, rfl⟩
        rw [decide_eq_false hc] at HCF
        obtain ⟨a, ca, b', cb, rfl, _, _⟩ := ha
        have h0 := C3.here w (.int .i64 p) (.slice a xss.length ca) (.slice b' yss.length cb) 27
        clear hb ha' hs' hl hc
        generalize xss.length = n at *
        generalize yss.length = m at *
        generalize cs.length = l at *
        go_enter Try.func50, Try.ntmps50
        go_wp2_with (first | (go_at_call 18; (with_reducible refine (HC.out _ (by go_grown)).mono ?_); rintro e w' ⟨rfl, hb⟩; have hL := chain (B := w.heap.size) (a := w) (by go_grown) (Nat.le_refl _) hb; (first | replace h0 := keepAt3 hb h0 | replace h0 := keepAt3 hb (C3.alloc h0 _)); clear hb) | (go_at_call 63; (with_reducible refine (HCF.out _ (by go_grown)).mono ?_); rintro e w' ⟨rfl, hb⟩; have hL := chain (B := w.heap.size) (a := w) (by go_grown) (Nat.le_refl _) hb; (first | replace h0 := keepAt3 hb h0 | replace h0 := keepAt3 hb (C3.alloc h0 _)); clear hb))
        go_ret2
        exact ⟨by rw [HR.out.1, HR.out.2]; rfl, hL⟩
    · have hd : (((cs.length : Nat) : Int) != ((xss.length : Nat) : Int)) = true := by simp; omega
      have HR : Hid (resAreCalm_0 p xss yss cs = false ∧ resAreCalm_1 p xss yss cs = 2) := by
        unfold resAreCalm_0 resAreCalm_1; rw [if_pos hb, if_neg (fun h => hl h.2.1), if_neg (fun h => hl h.1)]; exact ⟨rfl, rfl⟩
      obtain ⟨a, ca, b', cb, rfl, _, _⟩ := ha
      have h0 := C3.here w (.int .i64 p) (.slice a xss.length ca) (.slice b' yss.length cb) 27
      clear hb ha' hs' hl
      generalize xss.length = n at *
      generalize yss.length = m at *
      generalize cs.length = l at *
      go_enter Try.func50, Try.ntmps50
      go_wp2_with (first | (go_at_call 18; (with_reducible refine (HC.out _ (by go_grown)).mono ?_); rintro e w' ⟨rfl, hb⟩; have hL := chain (B := w.heap.size) (a := w) (by go_grown) (Nat.le_refl _) hb; (first | replace h0 := keepAt3 hb h0 | replace h0 := keepAt3 hb (C3.alloc h0 _)); clear hb))
      go_ret2
      exact ⟨by rw [HR.out.1, HR.out.2]; rfl, hL⟩

set_option maxRecDepth 100000 in
set_option maxHeartbeats 2000000 in
theorem sAreCalm_any (v : Value) (p : Int) (xss yss : List (List Int)) (vs : Value) (cs : List Int) (w : World) (ha : ReadsH w v p xss yss) (hs : ReadsF w vs cs) :
    Calls Try.prog 49 #[v, vs] w fun e w' => e = .returned (.tuple #[.bool (resAreCalm_0 p xss yss cs), .int .i64 (resAreCalm_1 p xss yss cs)]) ∧ Below w.heap.size w w' := by
  obtain ⟨b, hb⟩ : ∃ b, chaB p xss yss = b := ⟨_, rfl⟩
  have HC := Lib.hid (fun w' (h : Below w.heap.size w w') => l07Is_any v p xss yss w' (ha.keep h) hb)
  have HRI := Lib.hid (fun w' (h : Below w.heap.size w w') => l07N_any v p xss yss w' (ha.keep h))
  have ha' := ha
  have hs' := hs
  have HCell : Hid (∀ i, i < cs.length → ∃ cb co ca, vs = .slice (some ⟨cb, co, none⟩) cs.length ca ∧ w.cell? ⟨cb, co + i, none⟩ = some (.int .i64 (cs.getD i 0))) := by
    intro i hi
    obtain ⟨⟨a, ca, rfl, hm, h⟩, -⟩ := hs
    have h2 : Reads w (.slice a cs.length ca) cs := ⟨a, ca, rfl, hm, h⟩
    obtain ⟨b, off, rfl, hx⟩ := h2.cellR hi
    exact ⟨b, off, ca, rfl, hx⟩
  obtain ⟨⟨sa, sc, rfl, hsm, _⟩, -⟩ := hs
  unfold maxLen at hsm
  cases b
  · have HR : Hid (resAreCalm_0 p xss yss cs = false ∧ resAreCalm_1 p xss yss cs = 1) := by
      unfold resAreCalm_0 resAreCalm_1; rw [hb]; exact ⟨rfl, rfl⟩
    obtain ⟨a, ca, b', cb, rfl, _, _⟩ := ha
    have h0 := C3.here w (.int .i64 p) (.slice a xss.length ca) (.slice b' yss.length cb) 27
    clear hb ha' hs'
    generalize xss.length = n at *
    generalize yss.length = m at *
    generalize cs.length = l at *
    go_enter Try.func49, Try.ntmps49
    go_wp2_with ((go_at_call 53; (with_reducible refine (HC.out _ (by go_grown)).mono ?_); rintro e w' ⟨rfl, hb⟩; have hL := chain (B := w.heap.size) (a := w) (by go_grown) (Nat.le_refl _) hb; (first | replace h0 := keepAt3 hb h0 | replace h0 := keepAt3 hb (C3.alloc h0 _)); clear hb))
    go_ret2
    exact ⟨by rw [HR.out.1, HR.out.2]; rfl, hL⟩
  · obtain ⟨n1, n8⟩ := (chaB_out hb).1
    obtain ⟨j, hj, hok, hbad⟩ := firstBad (fun i => 0 ≤ cs.getD i 0 ∧ cs.getD i 0 < 16) cs.length
    have HBAD : Hid (j < cs.length → resAreCalm_0 p xss yss cs = false ∧ resAreCalm_1 p xss yss cs = 2) := fun h => by
      have hc : ¬ Cod cs := fun hc => hbad h (hc j h)
      unfold resAreCalm_0 resAreCalm_1; rw [if_pos hb, if_neg (fun h => hc h.2.2), if_neg (fun h => hc h.2)]; exact ⟨rfl, rfl⟩
    have HCO : Hid (j = cs.length → Cod cs) := fun h i hi => hok i (by omega)
    have HLE : Hid (cs.length ≠ xss.length → resAreCalm_0 p xss yss cs = false ∧ resAreCalm_1 p xss yss cs = 2) := fun hl => by
      unfold resAreCalm_0 resAreCalm_1; rw [if_pos hb, if_neg (fun h => hl h.2.1), if_neg (fun h => hl h.1)]; exact ⟨rfl, rfl⟩
    have HYE : Hid (cs.length = xss.length → Cod cs → resAreCalm_0 p xss yss cs = calmB xss cs ∧ resAreCalm_1 p xss yss cs = 0) := fun hl hc => by
      unfold resAreCalm_0 resAreCalm_1; rw [if_pos hb, if_pos ⟨hb, hl, hc⟩, if_pos ⟨hl, hc⟩]; exact ⟨rfl, rfl⟩
    have HAC := Lib.hid (fun w' (hl : cs.length = xss.length) (hc : Cod cs) (h : Below w.heap.size w w') => l07Calm_any v _ p xss yss cs w' (ha'.keep h) (hs'.keep h).1 hb (by omega) hc)
    have Hok := Lib.hid hok
    have Hbad := Lib.hid hbad
    obtain ⟨a, ca, b', cb, rfl, _, _⟩ := ha
    have h0 := C3.here w (.int .i64 p) (.slice a xss.length ca) (.slice b' yss.length cb) 27
    clear hb ha' hs' hok hbad
    generalize calmB xss cs = bR at *
    generalize resAreCalm_0 p xss yss cs = R0 at *
    generalize resAreCalm_1 p xss yss cs = R1 at *
    generalize xss.length = n at *
    generalize yss.length = m at *
    generalize cs.length = l at *
    go_enter Try.func49, Try.ntmps49
    go_wp2_with ((go_at_call 53; (with_reducible refine (HC.out _ (by go_grown)).mono ?_); rintro e w' ⟨rfl, hb⟩; have hL := chain (B := w.heap.size) (a := w) (by go_grown) (Nat.le_refl _) hb; (first | replace h0 := keepAt3 hb h0 | replace h0 := keepAt3 hb (C3.alloc h0 _)); clear hb))
    go_loopw [6] (fun c wr => ∃ k : Nat, k ≤ j ∧ c = .int .i64 (k : Int) ∧ Below w.heap.size w wr ∧ C3 wr w.heap.size (.int .i64 p) (.slice a n ca) (.slice b' m cb)) (fun c _ => l - (intOf c).toNat)
    case atStart => exact ⟨0, Nat.zero_le _, rfl, hL, h0⟩
    case round =>
      clear hL h0
      obtain ⟨k, hk, rfl, hL, h0⟩ := hrel
      by_cases hlt : k < l
      · obtain ⟨sb, so, sc', e, hx⟩ := HCell.out k hlt
        simp only [Value.slice.injEq, true_and] at e
        obtain ⟨rfl, rfl⟩ := e
        have hca := cell_later hL hx
        have hi1 : (k : Int) < (l : Int) := by omega
        have hi0 : (0 : Int) ≤ (k : Int) := by omega
        have Hkj : Hid ((0 ≤ cs.getD k 0 ∧ cs.getD k 0 < 16) → k < j) := fun h => by
          rcases Nat.lt_or_ge k j with h1 | h1
          · exact h1
          · have e : k = j := by omega
            subst e
            exact absurd h (Hbad.out hlt)
        have Hkb : Hid (¬ (0 ≤ cs.getD k 0 ∧ cs.getD k 0 < 16) → R0 = false ∧ R1 = 2) := fun h => by
          refine HBAD.out ?_
          rcases Nat.lt_or_ge j l with h1 | h1
          · exact h1
          · exact absurd (Hok.out k (by omega)) h
        clear hx
        generalize cs.getD k 0 = x at *
        by_cases hx1 : 0 ≤ x ∧ x ≤ 15
        · have HX1 := Lib.hid hx1
          have hkj := Hkj.out (by omega)
          clear hx1
          go_wp2_with ((go_at_call 91; (with_reducible refine (l01In_yes _ _ _ _ HX1.out).mono ?_); rintro e w' ⟨rfl, rfl⟩))
          go_roundw
          case rel => exact ⟨k + 1, by omega, by go_num, hL, h0⟩
          case measure => simp [intOf]; omega
        · have HX1 := Lib.hid hx1
          have HR := Lib.hid (Hkb.out (by omega))
          clear hx1
          go_wp2_with ((go_at_call 91; (with_reducible refine (l01In_no _ _ _ _ HX1.out).mono ?_); rintro e w' ⟨rfl, rfl⟩))
          go_ret2
          exact ⟨by rw [HR.out.1, HR.out.2]; rfl, hL⟩
      · have HCc := Lib.hid (HCO.out (by omega))
        have hge : ¬ (k : Int) < (l : Int) := by omega
        by_cases hl : l = n
        · have hd : ((l : Int) != (n : Int)) = false := by simp [hl]
          have HR := Lib.hid (HYE.out hl HCc.out)
          have HA := Lib.hid (fun w' h => HAC.out w' hl HCc.out h)
          clear hl
          go_wp2_with fail
          refine (HRI.out _ hL).mono ?_
          rintro e w1 ⟨rfl, hb⟩
          have hL1 := chain (B := w.heap.size) (a := w) hL (Nat.le_refl _) hb
          have h1 := keepAt3 hb h0
          clear hb
          go_wp2_with fail
          refine (HA.out _ hL1).mono ?_
          rintro e w2 ⟨rfl, hb⟩
          have hL2 := chain (B := w.heap.size) (a := w) hL1 (Nat.le_refl _) hb
          clear hb
          go_wp2_with fail
          go_ret2
          exact ⟨by rw [HR.out.1, HR.out.2]; rfl, hL2⟩
        · have hd : ((l : Int) != (n : Int)) = true := by simp; omega
          have HR := Lib.hid (HLE.out hl)
          clear hl
          go_wp2_with fail
          refine (HRI.out _ hL).mono ?_
          rintro e w1 ⟨rfl, hb⟩
          have hL1 := chain (B := w.heap.size) (a := w) hL (Nat.le_refl _) hb
          clear hb
          go_wp2_with fail
          go_ret2
          exact ⟨by rw [HR.out.1, HR.out.2]; rfl, hL1⟩

end Go.Proofs.Ytnlcnbkookmfaaa
