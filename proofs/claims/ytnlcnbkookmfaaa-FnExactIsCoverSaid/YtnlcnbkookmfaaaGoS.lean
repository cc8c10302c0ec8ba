/- Lists of rows: the model's l07Rows, l07Good. -/
import Derived.Test.YtnlcnbkookmfaaaGoP
import Derived.Test.YtnlcnbkookmfaaaTgS
import Derived.Test.YtnlcnbkookmfaaaAsc
import Derived.Deep.RegionWith
import Derived.Shelf.SlSortCmp.QuietGrown
namespace Go.Proofs.Ytnlcnbkookmfaaa
open Go.RowKit
set_option linter.unusedVariables false

theorem tog_symm {xss yss : List (List Int)} {n M a b : Nat} (h : Tog xss yss n M a b) : Tog xss yss n M b a := by
  refine ⟨fun x y => Tog xss yss n M y x, ?_, h⟩
  intro x y hxy
  have hu := tog_fix hxy
  refine ⟨hu.2.1, hu.1, fun c hc => ⟨?_, ?_⟩⟩
  · have h1 := (hu.2.2 c hc).1
    unfold out1 at h1 ⊢
    rcases of_decide_eq_true h1 with h2 | h2 | h2
    · exact decide_eq_true (.inr (.inl h2))
    · exact decide_eq_true (.inl h2)
    · exact decide_eq_true (.inr (.inr h2.symm))
  · rcases (hu.2.2 c hc).2 with h2 | h2 | h2
    · exact .inr (.inl h2)
    · exact .inl h2
    · exact .inr (.inr h2)
/-- do the members of a list go together, each two of them -/
noncomputable def goL (T : Nat → Nat → Prop) (xs : List Int) : Bool := bP (∀ i, i < xs.length → ∀ k, k < i → T (xs.getD i 0).toNat (xs.getD k 0).toNat)
theorem go_same {p : Int} {xss yss : List (List Int)} {n M : Nat} (hb : chaB p xss yss = true) (hn : xss.length = n) (hM : p = (M : Int)) {xs : List Int} (hx : ascB (n : Int) xs) : goB (Tog xss yss n M) (memQ xs xs.length) = goL (Tog xss yss n M) xs := by
  have hn8 := (chaB_out hb).1.2
  unfold goB goL
  refine bP_congr ⟨fun h i hi k hk => ?_, fun h a b ha hb' hqa hqb => ?_⟩
  · have h1 := (hx i hi).1
    have h2 := (hx k (by omega)).1
    exact h _ _ (by omega) (by omega) ⟨i, hi, by omega⟩ ⟨k, by omega, by omega⟩
  · obtain ⟨i, hi, ei⟩ := hqa
    obtain ⟨k, hk, ek⟩ := hqb
    have h1 := (hx i hi).1
    rcases Nat.lt_trichotomy i k with h3 | h3 | h3
    · have := h k hk i h3
      rw [ei, ek, Int.toNat_natCast, Int.toNat_natCast] at this
      exact tog_symm this
    · subst h3
      have e : a = b := by omega
      subst e
      exact tog_self hb hn hM (by omega)
    · have := h i hi k h3
      rw [ei, ek, Int.toNat_natCast, Int.toNat_natCast] at this
      exact this

theorem below_growH (w : World) (n : Nat) (os : Array Obj) : Below w.heap.size w (Go.Sort.grow (w.drewN n) os) :=
  ⟨rfl, rfl, rfl, by simp [Go.Sort.grow], fun k hk => by
    show (w.heap ++ os)[k]? = w.heap[k]?
    rw [Array.getElem?_append_left hk]⟩
theorem l07N_grown (p : Int) (a b : Option Addr) (n ca m cb : Nat) (w : World) (hm : n ≤ 1000) :
    Calls Try.prog 57 #[.agg #[.int .i64 p, .slice a n ca, .slice b m cb]] w fun e w' => e = .returned (.int .i64 (n : Int)) ∧ ∃ q os', w' = Go.Sort.grow (w.drewN q) os' := by
  have HE : Hid (∃ q os', w.alloc (.cells #[.int .i64 p, .slice a n ca, .slice b m cb] 27) = Go.Sort.grow (w.drewN q) os') := ⟨0, _, Go.Sort.alloc_eq_grow w _⟩
  go_enter Try.func57, Try.ntmps57
  go_wp2
  go_ret
  exact ⟨rfl, HE.out⟩
theorem l01In_grown (x lo hi : Int) (w : World) {b : Bool} (hb : decide (lo ≤ x ∧ x ≤ hi) = b) :
    Calls Try.prog 91 #[.int .i64 x, .int .i64 lo, .int .i64 hi] w fun e w' => e = .returned (.bool b) ∧ ∃ q os', w' = Go.Sort.grow (w.drewN q) os' :=
  (l01In_any x lo hi w).mono fun _ _ h => ⟨by rw [h.1, hb], 0, #[], by rw [Go.Sort.grow_empty]; exact h.2.symm⟩

set_option maxRecDepth 100000 in
set_option maxHeartbeats 1000000 in
theorem l07Rows_any (v vs : Value) (p : Int) (xss yss : List (List Int)) (xs : List Int) (w : World) (ha : ReadsH w v p xss yss) (hs : Reads w vs xs) (hn1 : 1 ≤ xss.length) (hn8 : xss.length ≤ 8) {b : Bool} (hb : decide (ascB (xss.length : Int) xs) = b) :
    Calls Try.prog 67 #[v, vs] w fun e w' => e = .returned (.bool b) ∧ Below w.heap.size w w' := by
  have HRI := Lib.hid (fun w' (h : Below w.heap.size w w') => l07N_any v p xss yss w' (ha.keep h))
  obtain ⟨j, hj, hok, hbad⟩ := firstBad (okAt (xss.length : Int) xs) xs.length
  have HT : Hid (j = xs.length → b = true) := fun e => by rw [← hb]; exact decide_eq_true (by rw [e] at hok; exact hok)
  have HF : Hid (j < xs.length → b = false) := fun e => by rw [← hb]; exact decide_eq_false fun h => hbad e (h j e)
  have Hok := Lib.hid hok
  have Hbad := Lib.hid hbad
  have HOK : Hid (∀ i, okAt (xss.length : Int) xs i ↔ (0 ≤ xs.getD i 0 ∧ xs.getD i 0 < (xss.length : Int)) ∧ (0 < i → xs.getD (i - 1) 0 < xs.getD i 0)) := fun i => Iff.rfl
  have HCell : Hid (∀ i, i < xs.length → ∃ cb co ca, vs = .slice (some ⟨cb, co, none⟩) xs.length ca ∧ w.cell? ⟨cb, co + i, none⟩ = some (.int .i64 (xs.getD i 0))) := by
    intro i hi
    obtain ⟨a, ca, rfl, hm, h⟩ := hs
    have h2 : Reads w (.slice a xs.length ca) xs := ⟨a, ca, rfl, hm, h⟩
    obtain ⟨b, off, rfl, hx⟩ := h2.cellR hi
    exact ⟨b, off, ca, rfl, hx⟩
  obtain ⟨sa, sc, rfl, hsm, _⟩ := hs
  unfold maxLen at hsm
  obtain ⟨a, ca, b', cb, rfl, _, _⟩ := ha
  have h0 := C3.here w (.int .i64 p) (.slice a xss.length ca) (.slice b' yss.length cb) 27
  have hw : IntKind.i64.wrap ((xss.length : Int) - 1) = (xss.length : Int) - 1 := IntWalk.i64_in _ (by omega)
  clear hb hok hbad
  generalize hnx : xss.length = n at *
  generalize yss.length = m at *
  generalize hl : xs.length = l at *
  clear hnx hl
  go_enter Try.func67, Try.ntmps67
  go_wp2_with fail
  go_loopw [5] (fun c wr => ∃ k : Nat, k ≤ j ∧ c = .int .i64 (k : Int) ∧ Below w.heap.size w wr ∧ C3 wr w.heap.size (.int .i64 p) (.slice a n ca) (.slice b' m cb)) (fun c _ => l - (intOf c).toNat)
  case atStart => exact ⟨0, Nat.zero_le _, rfl, by go_grown, h0⟩
  case round =>
    clear h0
    obtain ⟨k, hk, rfl, hL, h0⟩ := hrel
    by_cases hlt : k < l
    · obtain ⟨sb, so, sc', e, hx⟩ := HCell.out k hlt
      simp only [Value.slice.injEq, true_and] at e
      obtain ⟨rfl, rfl⟩ := e
      have c0 := cell_later hL hx
      have hi1 : (k : Int) < (l : Int) := by omega
      have hi0 : (0 : Int) ≤ (k : Int) := by omega
      have Hkj : Hid (okAt (n : Int) xs k → k < j) := fun h => by
        rcases Nat.lt_or_ge k j with h1 | h1
        · exact h1
        · have e : k = j := by omega
          subst e
          exact absurd h (Hbad.out hlt)
      have Hkb : Hid (¬ okAt (n : Int) xs k → b = false) := fun h => by
        refine HF.out ?_
        rcases Nat.lt_or_ge j l with h1 | h1
        · exact h1
        · exact absurd (Hok.out k (by omega)) h
      have HOk := HOK.out k
      clear hx
      have hn1000 : n ≤ 1000 := by omega
      obtain ⟨X, hX_⟩ : ∃ X, xs.getD k 0 = X := ⟨_, rfl⟩
      rw [hX_] at c0 HOk
      have HXX := Lib.hid hX_
      clear hX_
      have hcl : sb < wr.heap.size := by
        have h9 := hL.size
        rcases Nat.lt_or_ge sb wr.heap.size with h | h
        · exact h
        · simp [World.cell?, Array.getElem?_eq_none h] at c0
      by_cases hx1 : 0 ≤ X ∧ X ≤ (n : Int) - 1
      · have HX1 : Hid (decide (0 ≤ X ∧ X ≤ (n : Int) - 1) = true) := decide_eq_true hx1
        rcases Nat.eq_zero_or_pos k with hz | hp
        · subst hz
          have hkj := Hkj.out (HOk.2 ⟨by omega, fun h => by omega⟩)
          simp only [Nat.add_zero] at c0
          clear hx1 HOk
          have hmx : Try.prog.follows .mixedOrders = true := by kernel_rfl
          have hgb := h0.lt
          have g0 := fun nn os => Go.cell_grown hgb h0.1.1 nn os
          have g1 := fun nn os => Go.cell_grown hgb h0.1.2.1 nn os
          have g2 := fun nn os => Go.cell_grown hgb h0.1.2.2 nn os
          have gc0 := fun nn os => Go.cell_grown hcl c0 nn os
          go_wp2_with fail
          refine wp_region_quiet_grown (by assumption) (by kernel_rfl) ?_
          repeat (go_big_quiet_step (first | (go_at_call 57; exact Calls.grown_of (l07N_grown _ _ _ _ _ _ _ _ (by omega))) | (go_at_call 91; exact Calls.grown_of (l01In_grown _ _ _ _ HX1.out))))
          refine wpQuiet_nil ?_
          intro _ hw'
          obtain ⟨⟨nq, osq⟩, hw''⟩ := hw'
          subst hw''
          have hX := below_growH wr nq osq
          have hL2 := chain (B := w.heap.size) (a := w) hL (Nat.le_refl _) hX
          have h02 := keepAt3 hX h0
          clear hX g0 g1 g2 gc0
          go_wp2_with fail
          go_roundw
          case rel => exact ⟨0 + 1, by omega, by go_num, hL2, h02⟩
          case measure => simp [intOf]; omega
        · obtain ⟨sb2, so2, sc2, e2, hx2⟩ := HCell.out (k - 1) (by omega)
          simp only [Value.slice.injEq, Option.some.injEq, Addr.mk.injEq, and_true, true_and] at e2
          obtain ⟨⟨rfl, rfl⟩, rfl⟩ := e2
          have c1 := cell_later hL hx2
          clear hx2
          obtain ⟨Y, hY⟩ : ∃ Y, xs.getD (k - 1) 0 = Y := ⟨_, rfl⟩
          rw [hY] at c1 HOk
          clear hY
          have gc1 := fun nn os => Go.cell_grown (by exact hcl) c1 nn os
          have hp1 : (0 : Int) < (k : Int) := by omega
          have hp2 : (0 : Int) ≤ (k : Int) - 1 := by omega
          have hp3 : (k : Int) - 1 < (l : Int) := by omega
          have hp4 : ((k : Int) - 1).toNat = k - 1 := by omega
          have hd0 : decide ((0 : Int) < (k : Int)) = true := decide_eq_true hp1
          by_cases hle : X ≤ Y
          · have HR := Lib.hid (Hkb.out fun h => by have := (HOk.1 h).2 hp; omega)
            have hdl : decide (X ≤ Y) = true := decide_eq_true hle
            clear hx1 HOk
            have hmx : Try.prog.follows .mixedOrders = true := by kernel_rfl
            have hgb := h0.lt
            have g0 := fun nn os => Go.cell_grown hgb h0.1.1 nn os
            have g1 := fun nn os => Go.cell_grown hgb h0.1.2.1 nn os
            have g2 := fun nn os => Go.cell_grown hgb h0.1.2.2 nn os
            have gc0 := fun nn os => Go.cell_grown hcl c0 nn os
            go_wp2_with fail
            refine wp_region_quiet_grown (by assumption) (by kernel_rfl) ?_
            repeat (go_big_quiet_step (first | (go_at_call 57; exact Calls.grown_of (l07N_grown _ _ _ _ _ _ _ _ (by omega))) | (go_at_call 91; exact Calls.grown_of (l01In_grown _ _ _ _ HX1.out))))
            refine wpQuiet_nil ?_
            intro _ hw'
            obtain ⟨⟨nq, osq⟩, hw''⟩ := hw'
            subst hw''
            have hX := below_growH wr nq osq
            have hL2 := chain (B := w.heap.size) (a := w) hL (Nat.le_refl _) hX
            have h02 := keepAt3 hX h0
            clear hX g0 g1 g2 gc0
            clear gc1
            go_wp2_with fail
            go_ret
            exact ⟨by rw [HR.out]; rfl, hL2⟩
          · have hkj := Hkj.out (HOk.2 ⟨by omega, fun _ => by omega⟩)
            have hdl : decide (X ≤ Y) = false := decide_eq_false hle
            clear hx1 HOk
            have hmx : Try.prog.follows .mixedOrders = true := by kernel_rfl
            have hgb := h0.lt
            have g0 := fun nn os => Go.cell_grown hgb h0.1.1 nn os
            have g1 := fun nn os => Go.cell_grown hgb h0.1.2.1 nn os
            have g2 := fun nn os => Go.cell_grown hgb h0.1.2.2 nn os
            have gc0 := fun nn os => Go.cell_grown hcl c0 nn os
            go_wp2_with fail
            refine wp_region_quiet_grown (by assumption) (by kernel_rfl) ?_
            repeat (go_big_quiet_step (first | (go_at_call 57; exact Calls.grown_of (l07N_grown _ _ _ _ _ _ _ _ (by omega))) | (go_at_call 91; exact Calls.grown_of (l01In_grown _ _ _ _ HX1.out))))
            refine wpQuiet_nil ?_
            intro _ hw'
            obtain ⟨⟨nq, osq⟩, hw''⟩ := hw'
            subst hw''
            have hX := below_growH wr nq osq
            have hL2 := chain (B := w.heap.size) (a := w) hL (Nat.le_refl _) hX
            have h02 := keepAt3 hX h0
            clear hX g0 g1 g2 gc0
            clear gc1
            go_wp2_with fail
            go_roundw
            case rel => exact ⟨k + 1, by omega, by go_num, hL2, h02⟩
            case measure => simp [intOf]; omega
      · have HX1 : Hid (decide (0 ≤ X ∧ X ≤ (n : Int) - 1) = false) := decide_eq_false hx1
        have HR := Lib.hid (Hkb.out fun h => hx1 (by have := (HOk.1 h).1; omega))
        clear hx1 HOk
        have hmx : Try.prog.follows .mixedOrders = true := by kernel_rfl
        have hgb := h0.lt
        have g0 := fun nn os => Go.cell_grown hgb h0.1.1 nn os
        have g1 := fun nn os => Go.cell_grown hgb h0.1.2.1 nn os
        have g2 := fun nn os => Go.cell_grown hgb h0.1.2.2 nn os
        have gc0 := fun nn os => Go.cell_grown hcl c0 nn os
        go_wp2_with fail
        refine wp_region_quiet_grown (by assumption) (by kernel_rfl) ?_
        repeat (go_big_quiet_step (first | (go_at_call 57; exact Calls.grown_of (l07N_grown _ _ _ _ _ _ _ _ (by omega))) | (go_at_call 91; exact Calls.grown_of (l01In_grown _ _ _ _ HX1.out))))
        refine wpQuiet_nil ?_
        intro _ hw'
        obtain ⟨⟨nq, osq⟩, hw''⟩ := hw'
        subst hw''
        have hX := below_growH wr nq osq
        have hL2 := chain (B := w.heap.size) (a := w) hL (Nat.le_refl _) hX
        have h02 := keepAt3 hX h0
        clear hX g0 g1 g2 gc0
        go_wp2_with fail
        go_ret
        exact ⟨by rw [HR.out]; rfl, hL2⟩
    · have HR := Lib.hid (HT.out (by omega))
      have hge : ¬ (k : Int) < (l : Int) := by omega
      go_wp2_with fail
      go_ret
      exact ⟨by rw [HR.out]; rfl, hL⟩

end Go.Proofs.Ytnlcnbkookmfaaa
