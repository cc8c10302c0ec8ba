/- Flow charts copied, weighed, compared, marked, looked at again. -/
import Derived.Test.YtnlcnbkookmfaaaC3
import Derived.Test.YtnlcnbkookmfaaaHeld2
import Derived.Deep.RegionWith
namespace Go.Proofs.Ytnlcnbkookmfaaa
open Go.RowKit
set_option linter.unusedVariables false

/-- what is left of a purse behind a chart -/
def szH (left : Int) (xss yss : List (List Int)) : Int := if szZ2 left xss = -1 then -1 else szZ2 (szZ2 left xss) yss
/-- what a purse that is not empty tells -/
structure FitH (left : Int) (xss yss : List (List Int)) : Prop where
  n1 : xss.length ≤ 1048576
  l1 : ∀ i, i < xss.length → (xss.getD i []).length ≤ 1048576
  n2 : yss.length ≤ 1048576
  l2 : ∀ i, i < yss.length → (yss.getD i []).length ≤ 1048576
  sum : ((xss.length + sumLen xss xss.length + (yss.length + sumLen yss yss.length) : Nat) : Int) ≤ left
theorem purseH {left z : Int} {xss yss : List (List Int)} (h : szH left xss yss = z) (hz : ¬ z = -1) (hl : left ≤ 1048576) :
    FitH left xss yss ∧ 0 ≤ z ∧ z = left - ((xss.length + sumLen xss xss.length + (yss.length + sumLen yss yss.length) : Nat) : Int) := by
  unfold szH at h
  by_cases h1 : szZ2 left xss = -1
  · rw [if_pos h1] at h; exact absurd h.symm hz
  · rw [if_neg h1] at h
    obtain ⟨z1, hz1⟩ : ∃ z1, szZ2 left xss = z1 := ⟨_, rfl⟩
    rw [hz1] at h h1
    obtain ⟨a1, a2, a3, a4, a5⟩ := purseG hz1 h1 hl
    obtain ⟨b1, b2, b3, b4, b5⟩ := purseG h hz (by omega)
    exact ⟨⟨a1, a2, b1, b2, by omega⟩, b4, by omega⟩

theorem szZ2_cases (left : Int) (xss : List (List Int)) : szZ2 left xss = -1 ∨ (¬ szZ2 left xss < 0 ∧ 0 ≤ szZ2 left xss ∧ szZ2 left xss ≤ left) := by
  by_cases h : szZ2 left xss = -1
  · exact .inl h
  · have := szZ2_pos h; right; omega

theorem szChart_any (v : Value) (p : Int) (xss yss : List (List Int)) (left : Int) (w : World) (ha : ReadsH w v p xss yss) (l0 : 0 ≤ left) (l1 : left ≤ 1048576) {z : Int} (hz : szH left xss yss = z) :
    Calls Try.prog 15 #[v, .int .i64 left] w fun e w' => e = .returned (.int .i64 z) ∧ Below w.heap.size w w' := by
  obtain ⟨a, ca, b, cb, rfl, h1, h2⟩ := ha
  obtain ⟨z1, hz1⟩ : ∃ z1, szZ2 left xss = z1 := ⟨_, rfl⟩
  have hc1 := szZ2_cases left xss
  have HZ1 : Hid (∀ w', Below w.heap.size w w' → Calls Try.prog 40 #[.slice a xss.length ca, .int .i64 left] w' fun e w'' => e = .returned (.int .i64 z1) ∧ w' = w'') := fun w' h => hz1 ▸ szInt64SS_any _ xss left w' (h1.keep h) l0 l1
  have k0 := C3.here w (.int .i64 p) (.slice a xss.length ca) (.slice b yss.length cb) 24
  unfold szH at hz
  rw [hz1] at hc1 hz
  clear hz1
  rcases hc1 with h | ⟨h, h0, hle⟩
  · subst h
    rw [if_pos rfl] at hz
    subst hz
    clear h1 h2
    generalize xss.length = n at *
    generalize yss.length = m at *
    go_enter Try.func15, Try.ntmps15
    go_wp2_with (go_at_call 40; (with_reducible refine (HZ1.out _ (by go_grown)).mono ?_); rintro e w' ⟨rfl, rfl⟩)
    go_ret
    exact ⟨rfl, by go_grown⟩
  · rw [if_neg (by omega)] at hz
    have hc2 := szZ2_cases z1 yss
    have HZ2 : Hid (∀ w', Below w.heap.size w w' → Calls Try.prog 40 #[.slice b yss.length cb, .int .i64 z1] w' fun e w'' => e = .returned (.int .i64 z) ∧ w' = w'') := fun w' h => hz ▸ szInt64SS_any _ yss z1 w' (h2.keep h) h0 (by omega)
    rw [hz] at hc2
    clear h1 h2 hz l0 l1 hle h0
    generalize xss.length = n at *
    generalize yss.length = m at *
    rcases hc2 with h2 | ⟨h2, h20, h2le⟩
    · subst h2
      go_enter Try.func15, Try.ntmps15
      go_wp2_with (first | (go_at_call 40; (with_reducible refine (HZ1.out _ (by go_grown)).mono ?_); rintro e w' ⟨rfl, rfl⟩) | (go_at_call 40; (with_reducible refine (HZ2.out _ (by go_grown)).mono ?_); rintro e w' ⟨rfl, rfl⟩))
      go_ret
      exact ⟨rfl, by go_grown⟩
    · clear h20 h2le
      go_enter Try.func15, Try.ntmps15
      go_wp2_with (first | (go_at_call 40; (with_reducible refine (HZ1.out _ (by go_grown)).mono ?_); rintro e w' ⟨rfl, rfl⟩) | (go_at_call 40; (with_reducible refine (HZ2.out _ (by go_grown)).mono ?_); rintro e w' ⟨rfl, rfl⟩))
      go_ret
      exact ⟨rfl, by go_grown⟩

set_option maxHeartbeats 1000000 in
theorem toChart_x (v : Value) (p : Int) (xss yss : List (List Int)) (w : World) (ha : ReadsH w v p xss yss) {left : Int} (hf : FitH left xss yss) :
    Calls Try.prog 17 #[v] w fun e w' => ∃ a ca b cb B C, e = .returned (.agg #[.int .i64 p, .slice a xss.length ca, .slice b yss.length cb]) ∧ OwnH w' B C (.agg #[.int .i64 p, .slice a xss.length ca, .slice b yss.length cb]) p xss yss ∧ w.heap.size ≤ B ∧ (B ≤ C ∧ C ≤ w'.heap.size) ∧ Below w.heap.size w w' := by
  obtain ⟨a, ca, b, cb, rfl, h1, h2⟩ := ha
  have HA := Lib.hid (fun w' (h : Below w.heap.size w w') => toInt64SS_any _ xss w' (h1.keep h) hf.n1 hf.l1)
  have HB := Lib.hid (fun w' (h : Below w.heap.size w w') => toInt64SS_any _ yss w' (h2.keep h) hf.n2 hf.l2)
  clear h1 h2 hf
  have k0 := ((C3.here w (.int .i64 p) (.slice a xss.length ca) (.slice b yss.length cb) 24).alloc (.cells #[.int .i64 0, .slice none 0 0, .slice none 0 0] 27)).alloc (.cells #[.int .i64 p, .slice none 0 0, .slice none 0 0] 27)
  have k1 := (C3.here (w.alloc (.cells #[.int .i64 p, .slice a xss.length ca, .slice b yss.length cb] 24)) (.int .i64 0) (.slice none 0 0) (.slice none 0 0) 27).alloc (.cells #[.int .i64 p, .slice none 0 0, .slice none 0 0] 27)
  have k2 := C3.here ((w.alloc (.cells #[.int .i64 p, .slice a xss.length ca, .slice b yss.length cb] 24)).alloc (.cells #[.int .i64 0, .slice none 0 0, .slice none 0 0] 27)) (.int .i64 p) (.slice none 0 0) (.slice none 0 0) 27
  simp only [World.size_alloc] at k1 k2
  have HX : Hid (xss.length = xss.length ∧ yss.length = yss.length) := ⟨rfl, rfl⟩
  generalize hn1 : xss.length = n1 at *
  generalize hn2 : yss.length = n2 at *
  have HN1 := Lib.hid hn1
  have HN2 := Lib.hid hn2
  clear HX hn1 hn2
  go_enter Try.func17, Try.ntmps17
  go_wp2_with fail
  refine (HA.out _ (by go_grown)).mono ?_
  rintro e wa ⟨u, rfl, ou, hb⟩
  obtain ⟨ua, uc, eu, _, _⟩ := ou.reads
  rw [HN1.out] at eu
  subst eu
  replace k0 := keepAt3 hb k0
  replace k1 := keepAt3 hb k1
  replace k2 := keepAt3 hb k2
  have hL := chain (B := w.heap.size) (a := w) (by go_grown) (Nat.le_refl _) hb
  have hzz := hb.size
  simp only [World.size_alloc] at hzz
  have OU : Hid (Own2 wa (w.heap.size + 1 + 1 + 1) wa.heap.size (.slice ua n1 uc) xss) := ou.mono (by simp) (Nat.le_refl _)
  clear hb ou
  go_wp2_with fail
  replace k0 := k0.set (w.heap.size + 1 + 1) 1 (.slice ua n1 uc) (by omega)
  replace k1 := k1.set (w.heap.size + 1 + 1) 1 (.slice ua n1 uc) (by omega)
  replace k2 := k2.put1 (.slice ua n1 uc)
  have hL1 : Below w.heap.size w (wa.setCell ⟨w.heap.size + 1 + 1, 1, none⟩ (.slice ua n1 uc)) := hL.setCell (by simp only; omega) _
  replace OU : Hid (Own2 (wa.setCell ⟨w.heap.size + 1 + 1, 1, none⟩ (.slice ua n1 uc)) (w.heap.size + 1 + 1 + 1) wa.heap.size (.slice ua n1 uc) xss) := Own2.same OU.out fun k hk _ _ => by rw [Below.heap_setCell _ _ _ k (by dsimp only; omega)]
  refine (HB.out _ hL1).mono ?_
  rintro e wb ⟨u, rfl, ou, hb⟩
  obtain ⟨va, vc, eu, _, _⟩ := ou.reads
  rw [HN2.out] at eu
  subst eu
  replace k0 := keepAt3 hb k0
  replace k1 := keepAt3 hb k1
  replace k2 := keepAt3 hb k2
  have hL2 := chain (B := w.heap.size) (a := w) hL1 (by first | exact Nat.le_refl _ | simp) hb
  have hz2 := hb.size
  rw [World.size_setCell] at hz2
  have OV : Hid (Own2 wb wa.heap.size wb.heap.size (.slice va n2 vc) yss) := ou.mono (by simp) (Nat.le_refl _)
  replace OU := Lib.hid (OU.out.keep hb)
  clear hb ou hL hL1
  go_wp2_with fail
  refine bodyPost_ret (v := .agg #[.int .i64 p, .slice ua n1 uc, .slice va n2 vc]) (by simp [results, Try.results17, go_sem, *]) rfl ?_
  refine ⟨ua, uc, va, vc, w.heap.size + 1 + 1 + 1, wb.heap.size, rfl, ?_, by omega, ⟨by omega, by simp⟩, by go_grown⟩
  rw [OwnH]
  refine ⟨ua, uc, va, vc, wa.heap.size, by rw [HN1.out, HN2.out], by omega, by omega, ?_, ?_⟩
  · rw [HN1.out]
    refine Own2.same OU.out fun k hk _ _ => ?_
    repeat rw [Below.heap_setCell _ _ _ k (by dsimp only; omega)]
  · rw [HN2.out]
    refine Own2.same OV.out fun k hk _ _ => ?_
    repeat rw [Below.heap_setCell _ _ _ k (by dsimp only; omega)]

theorem eqChart_same (va vb : Value) (p : Int) (xss yss : List (List Int)) (w : World) (ha : ReadsH w va p xss yss) (hb : ReadsH w vb p xss yss) :
    Calls Try.prog 19 #[va, vb] w fun e w' => e = .returned (.bool true) ∧ Below w.heap.size w w' := by
  obtain ⟨a, ca, b, cb, rfl, h1, h2⟩ := ha
  obtain ⟨c, cc, d, cd, rfl, h3, h4⟩ := hb
  have HA := Lib.hid (fun w' (h : Below w.heap.size w w') => eqInt64SS_same _ _ xss w' (h1.keep h) (h3.keep h))
  have HB := Lib.hid (fun w' (h : Below w.heap.size w w') => eqInt64SS_same _ _ yss w' (h2.keep h) (h4.keep h))
  clear h1 h2 h3 h4
  have k0 := (C3.here w (.int .i64 p) (.slice a xss.length ca) (.slice b yss.length cb) 27).alloc (.cells #[.int .i64 p, .slice c xss.length cc, .slice d yss.length cd] 27)
  have k1 := C3.here (w.alloc (.cells #[.int .i64 p, .slice a xss.length ca, .slice b yss.length cb] 27)) (.int .i64 p) (.slice c xss.length cc) (.slice d yss.length cd) 27
  simp only [World.size_alloc] at k1
  generalize xss.length = n1 at *
  generalize yss.length = n2 at *
  go_enter Try.func19, Try.ntmps19
  go_wp2_with fail
  refine (HA.out _ (by go_grown)).mono ?_
  rintro e w1 ⟨rfl, hb⟩
  have hL := chain (B := w.heap.size) (a := w) (by go_grown) (Nat.le_refl _) hb
  replace k0 := keepAt3 hb k0
  replace k1 := keepAt3 hb k1
  clear hb
  go_wp2_with fail
  refine (HB.out _ hL).mono ?_
  rintro e w2 ⟨rfl, hb⟩
  have hL2 := chain (B := w.heap.size) (a := w) hL (Nat.le_refl _) hb
  clear hb
  go_wp2_with fail
  go_ret
  exact ⟨rfl, hL2⟩

/-- the rows of a chart written over, as rowsK tells for each half -/
theorem markChart_any (v : Value) (p : Int) (B C : Nat) (xss yss : List (List Int)) (q : Int) (w : World) (h : OwnH w B C v p xss yss) (hC : C ≤ w.heap.size) (hl1 : ∀ i, i < xss.length → (xss.getD i []).length ≤ 1048576) (hl2 : ∀ i, i < yss.length → (yss.getD i []).length ≤ 1048576) (q0 : 0 ≤ q)
    (hq : q + ((xss.length + sumLen xss xss.length + (yss.length + sumLen yss yss.length) : Nat) : Int) ≤ 1048577) :
    Calls Try.prog 23 #[v, .int .i64 q] w fun e w' => e = .returned (.int .i64 (q + ((sumLen xss xss.length : Nat) : Int) + ((sumLen yss yss.length : Nat) : Int))) ∧ OwnH w' B C v p (rowsK q xss xss.length) (rowsK (q + ((sumLen xss xss.length : Nat) : Int)) yss yss.length) ∧ Only B C w w' := by
  obtain ⟨a, ca, b, cb, M, rfl, hB, hM, h1, h2⟩ := h
  obtain ⟨s1, hs1⟩ : ∃ s1 : Int, ((sumLen xss xss.length : Nat) : Int) = s1 := ⟨_, rfl⟩
  obtain ⟨s2, hs2⟩ : ∃ s2 : Int, ((sumLen yss yss.length : Nat) : Int) = s2 := ⟨_, rfl⟩
  have HA : Hid (∀ w', Own2 w' B M (.slice a xss.length ca) xss → Calls Try.prog 24 #[.slice a xss.length ca, .int .i64 q] w' fun e w'' => e = .returned (.int .i64 (q + s1)) ∧ Own2 w'' B M (.slice a xss.length ca) (rowsK q xss xss.length) ∧ Only B M w' w'') := fun w' h => hs1 ▸ markInt64SS_any _ B M xss q w' h hl1 q0 (by omega)
  have HB : Hid (∀ w', Own2 w' M C (.slice b yss.length cb) yss → Calls Try.prog 24 #[.slice b yss.length cb, .int .i64 (q + s1)] w' fun e w'' => e = .returned (.int .i64 (q + s1 + s2)) ∧ Own2 w'' M C (.slice b yss.length cb) (rowsK (q + s1) yss yss.length) ∧ Only M C w' w'') := fun w' h => hs2 ▸ markInt64SS_any _ M C yss (q + s1) w' h hl2 (by omega) (by omega)
  have k0 := C3.here w (.int .i64 p) (.slice a xss.length ca) (.slice b yss.length cb) 27
  have HO1 := Lib.hid (h1.keep ((Below.refl _ _).alloc (Nat.le_refl _) (.cells #[.int .i64 p, .slice a xss.length ca, .slice b yss.length cb] 27)))
  have HO2 := Lib.hid (h2.keep ((Below.refl _ _).alloc (Nat.le_refl _) (.cells #[.int .i64 p, .slice a xss.length ca, .slice b yss.length cb] 27)))
  have HE : Hid (OwnH = OwnH) := rfl
  have HF : Hid (∀ w', Own2 w' B M (.slice a xss.length ca) (rowsK q xss xss.length) → Own2 w' M C (.slice b yss.length cb) (rowsK (q + s1) yss yss.length) → OwnH w' B C (.agg #[.int .i64 p, .slice a xss.length ca, .slice b yss.length cb]) p (rowsK q xss xss.length) (rowsK (q + s1) yss yss.length)) := fun w' x y =>
    ⟨a, ca, b, cb, M, by rw [rowsK_len, rowsK_len], hB, hM, by rw [rowsK_len]; exact x, by rw [rowsK_len]; exact y⟩
  rw [hs1, hs2]
  clear h1 h2 hl1 hl2 hs1 hs2 q0 hq HE
  obtain ⟨L1, hL1⟩ : ∃ L1, rowsK q xss xss.length = L1 := ⟨_, rfl⟩
  obtain ⟨L2, hL2⟩ : ∃ L2, rowsK (q + s1) yss yss.length = L2 := ⟨_, rfl⟩
  rw [hL1] at HA HF ⊢
  rw [hL2] at HB HF ⊢
  clear hL1 hL2
  generalize q + s1 = q1 at *
  generalize q1 + s2 = q2 at *
  generalize xss.length = n1 at *
  generalize yss.length = n2 at *
  go_enter Try.func23, Try.ntmps23
  go_wp2_with fail
  refine (HA.out _ HO1.out).mono ?_
  rintro e w1 ⟨rfl, om, oo⟩
  have hz := oo.size
  simp only [World.size_alloc] at hz
  have hA : Hid (Only B C w w1) := ⟨oo.os, oo.tape, oo.output, by omega, fun k hk ho => by
    rw [oo.block k (by simp; omega) (by omega)]
    exact Below.heap_alloc w _ k hk⟩
  replace k0 := k0.only oo (by omega)
  replace HO2 := Lib.hid (HO2.out.only oo (.inr (Nat.le_refl _)))
  have OM := Lib.hid om
  clear om oo
  go_wp2_with fail
  refine (HB.out _ HO2.out).mono ?_
  rintro e w2 ⟨rfl, om, oo⟩
  have hA2 : Hid (Only B C w w2) := ⟨oo.os.trans hA.out.os, oo.tape.trans hA.out.tape, oo.output.trans hA.out.output, Nat.le_trans hA.out.size oo.size, fun k hk ho => by
    rw [oo.block k (by have := hA.out.size; omega) (by omega)]
    exact hA.out.block k hk ho⟩
  have HH := Lib.hid (HF.out _ (OM.out.only oo (.inl (Nat.le_refl _))) om)
  clear om oo
  go_wp2_with fail
  go_ret
  exact ⟨rfl, HH.out, hA2.out⟩

theorem heldChart_any (v : Value) (p : Int) (xss yss : List (List Int)) (q : Int) (w : World) (h : ReadsH w v p (rowsK q xss xss.length) (rowsK (q + ((sumLen xss xss.length : Nat) : Int)) yss yss.length)) (hl1 : ∀ i, i < xss.length → (xss.getD i []).length ≤ 1048576) (hl2 : ∀ i, i < yss.length → (yss.getD i []).length ≤ 1048576) (q0 : 0 ≤ q)
    (hq : q + ((xss.length + sumLen xss xss.length + (yss.length + sumLen yss yss.length) : Nat) : Int) ≤ 1048577) :
    Calls Try.prog 48 #[v, .int .i64 q] w fun e w' => e = .returned (.int .i64 (q + ((sumLen xss xss.length : Nat) : Int) + ((sumLen yss yss.length : Nat) : Int))) ∧ Below w.heap.size w w' := by
  obtain ⟨a, ca, b, cb, rfl, h1, h2⟩ := h
  obtain ⟨s1, hs1⟩ : ∃ s1 : Int, ((sumLen xss xss.length : Nat) : Int) = s1 := ⟨_, rfl⟩
  obtain ⟨s2, hs2⟩ : ∃ s2 : Int, ((sumLen yss yss.length : Nat) : Int) = s2 := ⟨_, rfl⟩
  rw [hs1] at h2
  rw [rowsK_len, rowsK_len] at *
  have HA : Hid (∀ w', Below w.heap.size w w' → Calls Try.prog 25 #[.slice a xss.length ca, .int .i64 q] w' fun e w'' => e = .returned (.int .i64 (q + s1)) ∧ Below w'.heap.size w' w'') := fun w' h => hs1 ▸ heldInt64SS_any _ xss q w' (h1.keep h) hl1 q0 (by omega)
  have HB : Hid (∀ w', Below w.heap.size w w' → Calls Try.prog 25 #[.slice b yss.length cb, .int .i64 (q + s1)] w' fun e w'' => e = .returned (.int .i64 (q + s1 + s2)) ∧ Below w'.heap.size w' w'') := fun w' h => hs2 ▸ heldInt64SS_any _ yss (q + s1) w' (h2.keep h) hl2 (by omega) (by omega)
  have k0 := C3.here w (.int .i64 p) (.slice a xss.length ca) (.slice b yss.length cb) 27
  rw [hs1, hs2]
  have hn1 : ¬ q + s1 < 0 := by omega
  have hn2 : ¬ q + s1 + s2 < 0 := by omega
  clear h1 h2 hl1 hl2 hs1 hs2 q0 hq
  generalize q + s1 = q1 at *
  generalize q1 + s2 = q2 at *
  generalize xss.length = n1 at *
  generalize yss.length = n2 at *
  go_enter Try.func48, Try.ntmps48
  go_wp2_with fail
  refine (HA.out _ (by go_grown)).mono ?_
  rintro e w1 ⟨rfl, hb⟩
  have hL := chain (B := w.heap.size) (a := w) (by go_grown) (Nat.le_refl _) hb
  replace k0 := keepAt3 hb k0
  clear hb
  go_wp2_with fail
  refine (HB.out _ hL).mono ?_
  rintro e w2 ⟨rfl, hb⟩
  have hL2 := chain (B := w.heap.size) (a := w) hL (Nat.le_refl _) hb
  clear hb
  go_wp2_with fail
  go_ret
  exact ⟨rfl, hL2⟩

end Go.Proofs.Ytnlcnbkookmfaaa
