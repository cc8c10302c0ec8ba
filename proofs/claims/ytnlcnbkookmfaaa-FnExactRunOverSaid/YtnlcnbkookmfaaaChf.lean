/- ChainFrom: the program's and the model's. -/
import Derived.Test.YtnlcnbkookmfaaaChn
namespace Go.Proofs.Ytnlcnbkookmfaaa
open Go.RowKit
set_option linter.unusedVariables false

/-- is x a number below n -/
def bel (x n : Int) : Bool := decide (0 ≤ x ∧ x < n)
/-- the code of a chart, a row and columns -/
def plcC (p : Int) (xss yss : List (List Int)) (r : Int) (cs : List Int) : Int :=
  if chaB p xss yss = true then (if bel r xss.length = true ∧ (∀ i, i < cs.length → bel (cs.getD i 0) p = true) then 0 else 2) else 1
theorem plcC_inv {p r : Int} {xss yss : List (List Int)} {cs : List Int} (h : chaB p xss yss = false) : plcC p xss yss r cs = 1 := by unfold plcC; simp [h]
theorem plcC_row {p r : Int} {xss yss : List (List Int)} {cs : List Int} (h : chaB p xss yss = true) (h2 : bel r xss.length = false) : plcC p xss yss r cs = 2 := by unfold plcC; simp [h, h2]
theorem plcC_ok {p r : Int} {xss yss : List (List Int)} {cs : List Int} (h : chaB p xss yss = true) (h2 : bel r xss.length = true) (h3 : ∀ i, i < cs.length → bel (cs.getD i 0) p = true) : plcC p xss yss r cs = 0 := by
  unfold plcC; rw [if_pos h, if_pos ⟨h2, h3⟩]
theorem plcC_bad {p r : Int} {xss yss : List (List Int)} {cs : List Int} (h : chaB p xss yss = true) {i : Nat} (hi : i < cs.length) (h3 : bel (cs.getD i 0) p = false) : plcC p xss yss r cs = 2 := by
  unfold plcC; rw [if_pos h, if_neg]
  intro h4
  have := h4.2 i hi
  rw [h3] at this; cases this

set_option maxRecDepth 100000 in
set_option maxHeartbeats 2000000 in
theorem l07Place_any (v vs : Value) (p r : Int) (xss yss : List (List Int)) (cs : List Int) (w : World) (ha : ReadsH w v p xss yss) (hs : Reads w vs cs) {c : Int} (hc : plcC p xss yss r cs = c) :
    Calls Try.prog 58 #[v, .int .i64 r, vs] w fun e w' => e = .returned (.int .i64 c) ∧ Below w.heap.size w w' := by
  obtain ⟨b, hb⟩ : ∃ b, chaB p xss yss = b := ⟨_, rfl⟩
  have HC := Lib.hid (fun w' (h : Below w.heap.size w w') => l07Is_any v p xss yss w' (ha.keep h) hb)
  have HRI := Lib.hid (fun w' (h : Below w.heap.size w w') => l07N_any v p xss yss w' (ha.keep h))
  have HCS : Hid (∀ i, i < cs.length → ∃ a off ca, vs = .slice (some ⟨a, off, none⟩) cs.length ca ∧ w.cell? ⟨a, off + i, none⟩ = some (.int .i64 (cs.getD i 0))) := by
    intro i hi
    obtain ⟨a, ca, rfl, hm, h⟩ := hs
    have h2 : Reads w (.slice a cs.length ca) cs := ⟨a, ca, rfl, hm, h⟩
    obtain ⟨b, off, rfl, hx⟩ := h2.cellR hi
    exact ⟨b, off, ca, rfl, hx⟩
  obtain ⟨sa, sc, rfl, hsm, _⟩ := hs
  unfold maxLen at hsm
  cases b
  · have HR : Hid (c = 1) := by rw [Hid, ← hc]; exact plcC_inv hb
    obtain ⟨a, ca, b', cb, rfl, _, _⟩ := ha
    have h0 := C3.here w (.int .i64 p) (.slice a xss.length ca) (.slice b' yss.length cb) 27
    clear hb hc
    generalize xss.length = n at *
    generalize yss.length = m at *
    generalize cs.length = l at *
    go_enter Try.func58, Try.ntmps58
    go_wp2_with ((go_at_call 53; (with_reducible refine (HC.out _ (by go_grown)).mono ?_); rintro e w' ⟨rfl, hb⟩; have hL := chain (B := w.heap.size) (a := w) (by go_grown) (Nat.le_refl _) hb; (first | replace h0 := keepAt3 hb h0 | replace h0 := keepAt3 hb (C3.alloc h0 _)); clear hb))
    go_ret
    exact ⟨by rw [HR.out]; rfl, hL⟩
  · obtain ⟨⟨n1, n8⟩, ⟨p1, p4⟩, -⟩ := chaB_out hb
    by_cases hrow : 0 ≤ r ∧ r ≤ (xss.length : Int) - 1
    · have HQ := Lib.hid hrow
      have hbr : bel r xss.length = true := decide_eq_true (by omega)
      obtain ⟨j, hj, hok, hbad⟩ := firstBad (fun i => bel (cs.getD i 0) p = true) cs.length
      have HT : Hid (j = cs.length → c = 0) := fun e => by rw [← hc]; rw [e] at hok; exact plcC_ok hb hbr hok
      have HF : Hid (j < cs.length → c = 2) := fun e => by rw [← hc]; exact plcC_bad hb e (by simpa using hbad e)
      have Hok := Lib.hid hok
      have Hbad := Lib.hid hbad
      obtain ⟨a, ca, b', cb, rfl, _, _⟩ := ha
      have h0 := C3.here w (.int .i64 p) (.slice a xss.length ca) (.slice b' yss.length cb) 27
      have hw : IntKind.i64.wrap (p - 1) = p - 1 := IntWalk.i64_in _ (by omega)
      clear hb hc hrow hbr hok hbad
      generalize xss.length = n at *
      generalize yss.length = m at *
      generalize hl : cs.length = l at *
      clear hl
      go_enter Try.func58, Try.ntmps58
      go_wp2_with (first | (go_at_call 53; (with_reducible refine (HC.out _ (by go_grown)).mono ?_); rintro e w' ⟨rfl, hb⟩; have hL := chain (B := w.heap.size) (a := w) (by go_grown) (Nat.le_refl _) hb; (first | replace h0 := keepAt3 hb h0 | replace h0 := keepAt3 hb (C3.alloc h0 _)); clear hb) | (go_at_call 57; (with_reducible refine (HRI.out _ (by go_grown)).mono ?_); rintro e w' ⟨rfl, hb⟩; have hL := chain (B := w.heap.size) (a := w) (by go_grown) (Nat.le_refl _) hb; (first | replace h0 := keepAt3 hb h0 | replace h0 := keepAt3 hb (C3.alloc h0 _)); clear hb) | (go_at_call 91; (with_reducible refine (l01In_yes _ _ _ _ HQ.out).mono ?_); rintro e w' ⟨rfl, rfl⟩))
      go_loopw [7] (fun c wr => ∃ k : Nat, k ≤ j ∧ c = .int .i64 (k : Int) ∧ Below w.heap.size w wr ∧ C3 wr w.heap.size (.int .i64 p) (.slice a n ca) (.slice b' m cb)) (fun c _ => l - (intOf c).toNat)
      case atStart => exact ⟨0, Nat.zero_le _, rfl, hL, h0⟩
      case round =>
        clear hL h0
        obtain ⟨k, hk, rfl, hL, h0⟩ := hrel
        by_cases hlt : k < l
        · obtain ⟨sb, so, sc', e, hx⟩ := HCS.out k hlt
          simp only [Value.slice.injEq, true_and] at e
          obtain ⟨rfl, rfl⟩ := e
          have hca := cell_later hL hx
          have hi1 : (k : Int) < (l : Int) := by omega
          have hi0 : (0 : Int) ≤ (k : Int) := by omega
          have Hkj : Hid (bel (cs.getD k 0) p = true → k < j) := fun h => by
            rcases Nat.lt_or_ge k j with h1 | h1
            · exact h1
            · have e : k = j := by omega
              subst e
              exact absurd h (Hbad.out hlt)
          have Hkb : Hid (bel (cs.getD k 0) p = false → c = 2) := fun h => by
            refine HF.out ?_
            rcases Nat.lt_or_ge j l with h1 | h1
            · exact h1
            · have := Hok.out k (by omega); rw [h] at this; cases this
          clear hx
          generalize cs.getD k 0 = x at *
          by_cases hx1 : 0 ≤ x ∧ x ≤ p - 1
          · have HX1 := Lib.hid hx1
            have hkj := Hkj.out (decide_eq_true (by omega))
            clear hx1
            go_wp2_with fail
            go_quiet ((go_at_call 91; exact quiet1 (l01In_yes _ _ _ _ HX1.out)))
            go_wp2_with fail
            go_roundw
            case rel => exact ⟨k + 1, by omega, by go_num, Bdrew hL _, C3.drewUN h0 _⟩
            case measure => simp [intOf]; omega
          · have HX1 := Lib.hid hx1
            have HR := Lib.hid (Hkb.out (decide_eq_false (by omega)))
            clear hx1
            go_wp2_with fail
            go_quiet ((go_at_call 91; exact quiet1 (l01In_no _ _ _ _ HX1.out)))
            go_wp2_with fail
            go_ret
            exact ⟨by rw [HR.out]; rfl, by first | exact Bdrew hL _ | go_grown⟩
        · have HR := Lib.hid (HT.out (by omega))
          have hge : ¬ (k : Int) < (l : Int) := by omega
          go_wp2_with fail
          go_ret
          exact ⟨by rw [HR.out]; rfl, hL⟩
    · have HQ := Lib.hid hrow
      have HR : Hid (c = 2) := by rw [Hid, ← hc]; exact plcC_row hb (decide_eq_false (by omega))
      obtain ⟨a, ca, b', cb, rfl, _, _⟩ := ha
      have h0 := C3.here w (.int .i64 p) (.slice a xss.length ca) (.slice b' yss.length cb) 27
      clear hb hc hrow
      generalize xss.length = n at *
      generalize yss.length = m at *
      generalize cs.length = l at *
      go_enter Try.func58, Try.ntmps58
      go_wp2_with (first | (go_at_call 53; (with_reducible refine (HC.out _ (by go_grown)).mono ?_); rintro e w' ⟨rfl, hb⟩; have hL := chain (B := w.heap.size) (a := w) (by go_grown) (Nat.le_refl _) hb; (first | replace h0 := keepAt3 hb h0 | replace h0 := keepAt3 hb (C3.alloc h0 _)); clear hb) | (go_at_call 57; (with_reducible refine (HRI.out _ (by go_grown)).mono ?_); rintro e w' ⟨rfl, hb⟩; have hL := chain (B := w.heap.size) (a := w) (by go_grown) (Nat.le_refl _) hb; (first | replace h0 := keepAt3 hb h0 | replace h0 := keepAt3 hb (C3.alloc h0 _)); clear hb) | (go_at_call 91; (with_reducible refine (l01In_no _ _ _ _ HQ.out).mono ?_); rintro e w' ⟨rfl, rfl⟩))
      go_ret
      exact ⟨by rw [HR.out]; rfl, hL⟩

/-! ### ChainFrom -/
theorem reads_oneH (w : World) (x : Int) (t : TypeId) : Reads (w.alloc (.cells #[.int .i64 x] t)) (.slice (some ⟨w.heap.size, 0, none⟩) 1 1) [x] :=
  ⟨some ⟨w.heap.size, 0, none⟩, 1, rfl, by simp [maxLen], .inr ⟨w.heap.size, 0, rfl, fun i hi => by
    have : i = 0 := by simp at hi; omega
    subst this
    rw [World.cell?_alloc_at _ _ _ _ rfl]; rfl⟩⟩
noncomputable def resChainFrom_0 (p : Int) (xss yss : List (List Int)) (r c : Int) : List Int := if plcC p xss yss r [c] = 0 then chR (fcol xss c.toNat) r.toNat xss.length else []
noncomputable def resChainFrom_1 (p : Int) (xss yss : List (List Int)) (r c : Int) : Int := if plcC p xss yss r [c] = 0 then (if chB (fcol xss c.toNat) r.toNat xss.length = true then 0 else 4) else plcC p xss yss r [c]
theorem plcC_zero {p r : Int} {xss yss : List (List Int)} {cs : List Int} (h : plcC p xss yss r cs = 0) : chaB p xss yss = true ∧ bel r xss.length = true ∧ ∀ i, i < cs.length → bel (cs.getD i 0) p = true := by
  unfold plcC at h
  by_cases h1 : chaB p xss yss = true
  · rw [if_pos h1] at h
    by_cases h2 : bel r xss.length = true ∧ ∀ i, i < cs.length → bel (cs.getD i 0) p = true
    · exact ⟨h1, h2⟩
    · rw [if_neg h2] at h; cases h
  · rw [if_neg h1] at h; cases h
theorem chR_len (f : Nat → Int) (r n : Nat) : (chR f r n).length ≤ n + 1 := by
  unfold chR
  split
  · rw [chL_len]; have := (jend_spec f r n).1; omega
  · simp
theorem lenChainFrom_0 (p : Int) (xss yss : List (List Int)) (r c : Int) : (resChainFrom_0 p xss yss r c).length ≤ 100000 := by
  unfold resChainFrom_0
  by_cases h : plcC p xss yss r [c] = 0
  · rw [if_pos h]
    have h1 := chR_len (fcol xss c.toNat) r.toNat xss.length
    have h2 := (chaB_out (plcC_zero h).1).1.2
    omega
  · rw [if_neg h]; simp
theorem belN {x n : Int} (h : bel x n = true) : ∃ X : Nat, x = (X : Int) ∧ (X : Int) < n := by
  have := of_decide_eq_true h
  exact ⟨x.toNat, by omega, by omega⟩

set_option maxRecDepth 100000 in
set_option maxHeartbeats 2000000 in
theorem iChainFrom_any (v : Value) (p : Int) (xss yss : List (List Int)) (r c : Int) (w : World) (ha : ReadsH w v p xss yss) :
    Calls Try.prog 27 #[v, .int .i64 r, .int .i64 c] w fun e w' => ∃ u, e = .returned (.tuple #[u, .int .i64 (resChainFrom_1 p xss yss r c)]) ∧ In w' w.heap.size w'.heap.size u (resChainFrom_0 p xss yss r c) ∧ Below w.heap.size w w' := by
  obtain ⟨b, hb⟩ : ∃ b, chaB p xss yss = b := ⟨_, rfl⟩
  have HC := Lib.hid (fun w' (h : Below w.heap.size w w') => isChart_any v p xss yss w' (ha.keep h) hb)
  have HRI := Lib.hid (fun w' (h : Below w.heap.size w w') => rowsIn_any v p xss yss w' (ha.keep h))
  have ha' := ha
  cases b
  · have HR : Hid (resChainFrom_0 p xss yss r c = [] ∧ resChainFrom_1 p xss yss r c = 1) := by
      have e : plcC p xss yss r [c] = 1 := plcC_inv hb
      unfold resChainFrom_0 resChainFrom_1; rw [e]; exact ⟨rfl, rfl⟩
    obtain ⟨a, ca, b', cb, rfl, _, _⟩ := ha
    have h0 := C3.here w (.int .i64 p) (.slice a xss.length ca) (.slice b' yss.length cb) 27
    clear hb ha'
    generalize xss.length = n at *
    generalize yss.length = m at *
    go_enter Try.func27, Try.ntmps27
    go_wp2_with ((go_at_call 18; (with_reducible refine (HC.out _ (by go_grown)).mono ?_); rintro e w' ⟨rfl, hb⟩; have hL := chain (B := w.heap.size) (a := w) (by go_grown) (Nat.le_refl _) hb; (first | replace h0 := keepAt3 hb h0 | replace h0 := keepAt3 hb (C3.alloc h0 _)); clear hb))
    go_ret2
    exact ⟨_, by rw [HR.out.2]; rfl, by rw [HR.out.1]; exact ⟨ownsNone _ _, fun b e => by cases e⟩, hL⟩
  · obtain ⟨br, hbr⟩ : ∃ b, bel r xss.length = b := ⟨_, rfl⟩
    obtain ⟨bc, hbc⟩ : ∃ b, bel c p = b := ⟨_, rfl⟩
    have HB1 := Lib.hid (fun w => isBelowH r (xss.length : Int) w hbr)
    have HB2 := Lib.hid (fun w => isBelowH c p w hbc)
    by_cases hbb : br = true ∧ bc = true
    · obtain ⟨rfl, rfl⟩ := hbb
      have e : plcC p xss yss r [c] = 0 := plcC_ok hb hbr fun i hi => by
        have : i = 0 := by simp at hi; omega
        subst this; exact hbc
      obtain ⟨R, rfl, hR⟩ := belN hbr
      obtain ⟨C, rfl, hC⟩ := belN hbc
      have HR : Hid (resChainFrom_0 p xss yss R C = chR (fcol xss C) R xss.length ∧ resChainFrom_1 p xss yss R C = if chB (fcol xss C) R xss.length = true then 0 else 4) := by
        unfold resChainFrom_0 resChainFrom_1; rw [if_pos e, if_pos e, Int.toNat_natCast, Int.toNat_natCast]; exact ⟨rfl, rfl⟩
      have HCH := Lib.hid (fun w' (h : Below w.heap.size w w') => chainFrom_any v p xss yss R C w' (ha'.keep h) hb (by omega) hC)
      have HEMP : Hid (chB (fcol xss C) R xss.length = false → chR (fcol xss C) R xss.length = []) := fun h => by unfold chR; rw [h]; rfl
      obtain ⟨a, ca, b', cb, rfl, _, _⟩ := ha
      have h0 := C3.here w (.int .i64 p) (.slice a xss.length ca) (.slice b' yss.length cb) 27
      clear hb ha' e hbr hbc hR hC
      generalize chR (fcol xss C) R xss.length = lR at *
      generalize chB (fcol xss C) R xss.length = bR at *
      generalize xss.length = n at *
      generalize yss.length = m at *
      go_enter Try.func27, Try.ntmps27
      go_wp2_with (first | (go_at_call 18; (with_reducible refine (HC.out _ (by go_grown)).mono ?_); rintro e w' ⟨rfl, hb⟩; have hL := chain (B := w.heap.size) (a := w) (by go_grown) (Nat.le_refl _) hb; (first | replace h0 := keepAt3 hb h0 | replace h0 := keepAt3 hb (C3.alloc h0 _)); clear hb) | (go_at_call 54; (with_reducible refine (HRI.out _ (by go_grown)).mono ?_); rintro e w' ⟨rfl, hb⟩; have hL := chain (B := w.heap.size) (a := w) (by go_grown) (Nat.le_refl _) hb; (first | replace h0 := keepAt3 hb h0 | replace h0 := keepAt3 hb (C3.alloc h0 _)); clear hb) | (go_at_call 60; (with_reducible refine (HB1.out _).mono ?_); rintro e w' ⟨rfl, rfl⟩) | (go_at_call 60; (with_reducible refine (HB2.out _).mono ?_); rintro e w' ⟨rfl, rfl⟩))
      refine (HCH.out _ hL).mono ?_
      rintro e w2 ⟨u, rfl, ou, hb⟩
      have hs1 := hL.size
      have hL2 := chain (B := w.heap.size) (a := w) hL (Nat.le_refl _) hb
      have OU := Lib.hid ou
      clear hb ou
      cases bR
      · have hE := HEMP.out rfl
        subst hE
        go_wp2_with fail
        go_ret2
        exact ⟨_, by rw [HR.out.2]; rfl, by rw [HR.out.1]; exact ⟨ownsNone _ _, fun b e => by cases e⟩, hL2⟩
      · go_wp2_with fail
        go_ret2
        exact ⟨u, by rw [HR.out.2]; rfl, by rw [HR.out.1]; exact In.of OU.out hs1 (Nat.le_refl _), hL2⟩
    · have HR : Hid (resChainFrom_0 p xss yss r c = [] ∧ resChainFrom_1 p xss yss r c = 2) := by
        have e : plcC p xss yss r [c] = 2 := by
          unfold plcC
          rw [if_pos hb, if_neg]
          intro h
          exact hbb ⟨by rw [← hbr]; exact h.1, by rw [← hbc]; exact h.2 0 (by simp)⟩
        unfold resChainFrom_0 resChainFrom_1; rw [e]; exact ⟨rfl, rfl⟩
      have hcase : br = false ∨ (br = true ∧ bc = false) := by cases br <;> cases bc <;> simp_all
      obtain ⟨a, ca, b', cb, rfl, _, _⟩ := ha
      have h0 := C3.here w (.int .i64 p) (.slice a xss.length ca) (.slice b' yss.length cb) 27
      clear hb ha' hbb hbr hbc
      generalize xss.length = n at *
      generalize yss.length = m at *
      rcases hcase with h | ⟨h, h'⟩
      · subst h
        go_enter Try.func27, Try.ntmps27
        go_wp2_with (first | (go_at_call 18; (with_reducible refine (HC.out _ (by go_grown)).mono ?_); rintro e w' ⟨rfl, hb⟩; have hL := chain (B := w.heap.size) (a := w) (by go_grown) (Nat.le_refl _) hb; (first | replace h0 := keepAt3 hb h0 | replace h0 := keepAt3 hb (C3.alloc h0 _)); clear hb) | (go_at_call 54; (with_reducible refine (HRI.out _ (by go_grown)).mono ?_); rintro e w' ⟨rfl, hb⟩; have hL := chain (B := w.heap.size) (a := w) (by go_grown) (Nat.le_refl _) hb; (first | replace h0 := keepAt3 hb h0 | replace h0 := keepAt3 hb (C3.alloc h0 _)); clear hb) | (go_at_call 60; (with_reducible refine (HB1.out _).mono ?_); rintro e w' ⟨rfl, rfl⟩))
        go_ret2
        exact ⟨_, by rw [HR.out.2]; rfl, by rw [HR.out.1]; exact ⟨ownsNone _ _, fun b e => by cases e⟩, hL⟩
      · subst h h'
        go_enter Try.func27, Try.ntmps27
        go_wp2_with (first | (go_at_call 18; (with_reducible refine (HC.out _ (by go_grown)).mono ?_); rintro e w' ⟨rfl, hb⟩; have hL := chain (B := w.heap.size) (a := w) (by go_grown) (Nat.le_refl _) hb; (first | replace h0 := keepAt3 hb h0 | replace h0 := keepAt3 hb (C3.alloc h0 _)); clear hb) | (go_at_call 54; (with_reducible refine (HRI.out _ (by go_grown)).mono ?_); rintro e w' ⟨rfl, hb⟩; have hL := chain (B := w.heap.size) (a := w) (by go_grown) (Nat.le_refl _) hb; (first | replace h0 := keepAt3 hb h0 | replace h0 := keepAt3 hb (C3.alloc h0 _)); clear hb) | (go_at_call 60; (with_reducible refine (HB1.out _).mono ?_); rintro e w' ⟨rfl, rfl⟩) | (go_at_call 60; (with_reducible refine (HB2.out _).mono ?_); rintro e w' ⟨rfl, rfl⟩))
        go_ret2
        exact ⟨_, by rw [HR.out.2]; rfl, by rw [HR.out.1]; exact ⟨ownsNone _ _, fun b e => by cases e⟩, hL⟩

set_option maxRecDepth 100000 in
set_option maxHeartbeats 2000000 in
theorem sChainFrom_any (v : Value) (p : Int) (xss yss : List (List Int)) (r c : Int) (w : World) (ha : ReadsH w v p xss yss) :
    Calls Try.prog 26 #[v, .int .i64 r, .int .i64 c] w fun e w' => ∃ u, e = .returned (.tuple #[u, .int .i64 (resChainFrom_1 p xss yss r c)]) ∧ Reads w' u (resChainFrom_0 p xss yss r c) ∧ Below w.heap.size w w' := by
  obtain ⟨d, hd⟩ : ∃ d, plcC p xss yss r [c] = d := ⟨_, rfl⟩
  have HE := Lib.hid (fun w' vs (h : Below w.heap.size w w') (hs : Reads w' vs [c]) => l07Place_any v vs p r xss yss [c] w' (ha.keep h) hs hd)
  have ha' := ha
  by_cases h0d : d = 0
  · subst h0d
    obtain ⟨hb, hbr, hbc'⟩ := plcC_zero hd
    have hbc := hbc' 0 (by simp)
    simp only [List.getD_cons_zero] at hbc
    obtain ⟨R, rfl, hR⟩ := belN hbr
    obtain ⟨C, rfl, hC⟩ := belN hbc
    have HR : Hid (resChainFrom_0 p xss yss R C = chR (fcol xss C) R xss.length ∧ resChainFrom_1 p xss yss R C = if chB (fcol xss C) R xss.length = true then 0 else 4) := by
      unfold resChainFrom_0 resChainFrom_1; rw [if_pos hd, if_pos hd, Int.toNat_natCast, Int.toNat_natCast]; exact ⟨rfl, rfl⟩
    have HCH := Lib.hid (fun w' (h : Below w.heap.size w w') => l07Chain_any v p xss yss R C w' (ha'.keep h) hb (by omega) hC)
    have HEMP : Hid (chB (fcol xss C) R xss.length = false → chR (fcol xss C) R xss.length = []) := fun h => by unfold chR; rw [h]; rfl
    obtain ⟨a, ca, b', cb, rfl, _, _⟩ := ha
    have HO := Lib.hid (reads_oneH (w.alloc (.cells #[.int .i64 p, .slice a xss.length ca, .slice b' yss.length cb] 27)) (C : Int) 2)
    have h0 := (C3.here w (.int .i64 p) (.slice a xss.length ca) (.slice b' yss.length cb) 27).alloc (.cells #[.int .i64 (C : Int)] 2)
    clear hb ha' hd hbr hbc hbc' hR hC
    generalize chR (fcol xss C) R xss.length = lR at *
    generalize chB (fcol xss C) R xss.length = bR at *
    generalize xss.length = n at *
    generalize yss.length = m at *
    go_enter Try.func26, Try.ntmps26
    go_wp2_with ((go_at_call 58; (with_reducible refine (HE.out _ _ (by go_grown) (by simpa using HO.out)).mono ?_); rintro e w' ⟨rfl, hb⟩; have hL := chain (B := w.heap.size) (a := w) (by go_grown) (Nat.le_refl _) hb; (first | replace h0 := keepAt3 hb h0 | replace h0 := keepAt3 hb (C3.alloc h0 _)); clear hb))
    refine (HCH.out _ hL).mono ?_
    rintro e w2 ⟨u, rfl, ou, hb⟩
    have hL2 := chain (B := w.heap.size) (a := w) hL (Nat.le_refl _) hb
    have OU := Lib.hid ou
    clear hb ou
    cases bR
    · have hE := HEMP.out rfl
      subst hE
      go_wp2_with fail
      go_ret2
      exact ⟨_, by rw [HR.out.2]; rfl, by rw [HR.out.1]; exact (ownsNone _ 0).reads, hL2⟩
    · go_wp2_with fail
      go_ret2
      exact ⟨u, by rw [HR.out.2]; rfl, by rw [HR.out.1]; exact OU.out.reads, hL2⟩
  · have HR : Hid (resChainFrom_0 p xss yss r c = [] ∧ resChainFrom_1 p xss yss r c = d) := by
      unfold resChainFrom_0 resChainFrom_1; rw [hd, if_neg h0d, if_neg h0d]; exact ⟨rfl, rfl⟩
    have hne : (d != 0) = true := by simp [h0d]
    obtain ⟨a, ca, b', cb, rfl, _, _⟩ := ha
    have HO := Lib.hid (reads_oneH (w.alloc (.cells #[.int .i64 p, .slice a xss.length ca, .slice b' yss.length cb] 27)) c 2)
    have h0 := (C3.here w (.int .i64 p) (.slice a xss.length ca) (.slice b' yss.length cb) 27).alloc (.cells #[.int .i64 c] 2)
    clear ha' hd h0d
    generalize xss.length = n at *
    generalize yss.length = m at *
    go_enter Try.func26, Try.ntmps26
    go_wp2_with ((go_at_call 58; (with_reducible refine (HE.out _ _ (by go_grown) (by simpa using HO.out)).mono ?_); rintro e w' ⟨rfl, hb⟩; have hL := chain (B := w.heap.size) (a := w) (by go_grown) (Nat.le_refl _) hb; (first | replace h0 := keepAt3 hb h0 | replace h0 := keepAt3 hb (C3.alloc h0 _)); clear hb))
    go_ret2
    exact ⟨_, by rw [HR.out.2]; rfl, by rw [HR.out.1]; exact (ownsNone _ 0).reads, hL⟩

end Go.Proofs.Ytnlcnbkookmfaaa
