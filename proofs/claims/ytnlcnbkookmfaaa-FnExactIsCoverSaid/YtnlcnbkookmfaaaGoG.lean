/- GoTogether: the program's and the model's. -/
import Derived.Test.YtnlcnbkookmfaaaGoS
namespace Go.Proofs.Ytnlcnbkookmfaaa
open Go.RowKit
set_option linter.unusedVariables false

set_option maxRecDepth 100000 in
set_option maxHeartbeats 1000000 in
theorem l07Good_any (u vs : Value) (B n : Nat) (V : Nat → Value) (T : Nat → Nat → Prop) (xs : List Int) (w : World) (hM : MatB w B u n n V (fun a b => bP (T a b))) (hs : Reads w vs xs) (hx : ∀ i, i < xs.length → 0 ≤ xs.getD i 0 ∧ xs.getD i 0 < (n : Int)) (hl8 : xs.length ≤ 100) :
    Calls Try.prog 68 #[u, vs] w fun e w' => e = .returned (.bool (goL T xs)) ∧ Below w.heap.size w w' := by
  have HT : Hid ((∀ i, i < xs.length → ∀ k, k < i → T (xs.getD i 0).toNat (xs.getD k 0).toNat) → goL T xs = true) := fun h => bP_yes h
  have HF : Hid (∀ i k, i < xs.length → k < i → ¬ T (xs.getD i 0).toNat (xs.getD k 0).toNat → goL T xs = false) := fun i k h1 h2 h3 => bP_no fun h => h3 (h i h1 k h2)
  have HX := Lib.hid hx
  have HM := Lib.hid hM
  obtain ⟨ua, uc, rfl⟩ := hM.form
  have HCell : Hid (∀ i, i < xs.length → ∃ cb co ca, vs = .slice (some ⟨cb, co, none⟩) xs.length ca ∧ w.cell? ⟨cb, co + i, none⟩ = some (.int .i64 (xs.getD i 0))) := by
    intro i hi
    obtain ⟨a, ca, rfl, hm, h⟩ := hs
    have h2 : Reads w (.slice a xs.length ca) xs := ⟨a, ca, rfl, hm, h⟩
    obtain ⟨b, off, rfl, hx⟩ := h2.cellR hi
    exact ⟨b, off, ca, rfl, hx⟩
  obtain ⟨sa, sc, rfl, hsm, _⟩ := hs
  clear hM hx hsm
  generalize goL T xs = bR at *
  generalize hl : xs.length = l at *
  clear hl
  go_enter Try.func68, Try.ntmps68
  go_wp2_with fail
  go_loopw [5] (fun c wr => ∃ k : Nat, k ≤ l ∧ c = .int .i64 (k : Int) ∧ Below w.heap.size w wr ∧ Hid (∀ i, i < k → ∀ j, j < i → T (xs.getD i 0).toNat (xs.getD j 0).toNat)) (fun c _ => l - (intOf c).toNat)
  case atStart => exact ⟨0, Nat.zero_le _, rfl, Below.refl _ _, fun i hi => by omega⟩
  case round =>
    obtain ⟨k, hk, rfl, hL, hP⟩ := hrel
    by_cases hkl : k < l
    · have hk1 : (k : Int) < (l : Int) := by omega
      have hk0 : (0 : Int) ≤ (k : Int) := by omega
      go_wp2_with fail
      go_loopw [6] (fun c wr => ∃ j : Nat, j ≤ k ∧ c = .int .i64 (j : Int) ∧ Below w.heap.size w wr ∧ Hid (∀ b, b < j → T (xs.getD k 0).toNat (xs.getD b 0).toNat)) (fun c _ => k - (intOf c).toNat)
      case atStart => exact ⟨0, Nat.zero_le _, rfl, hL, fun b hb => by omega⟩
      case round =>
        clear hL
        obtain ⟨j, hj, rfl, hL, hQ⟩ := hrel
        by_cases hjl : j < k
        · obtain ⟨cb, co, sc', e1, hck0⟩ := HCell.out k hkl
          obtain ⟨cb2, co2, sc2, e2, hcj0⟩ := HCell.out j (by omega)
          simp only [Value.slice.injEq, true_and] at e1 e2
          obtain ⟨rfl, rfl⟩ := e1
          simp only [Option.some.injEq, Addr.mk.injEq, and_true] at e2
          obtain ⟨⟨rfl, rfl⟩, rfl⟩ := e2
          have b1 := HX.out k hkl
          have b2 := HX.out j (by omega)
          have hF := Lib.hid (HF.out k j hkl hjl)
          have HQS : Hid (T (xs.getD k 0).toNat (xs.getD j 0).toNat → ∀ b, b < j + 1 → T (xs.getD k 0).toNat (xs.getD b 0).toNat) := fun h b hb => by
            rcases Nat.lt_or_ge b j with h2 | h2
            · exact hQ.out b h2
            · have e : b = j := by omega
              subst e; exact h
          obtain ⟨X, hX⟩ : ∃ X : Nat, xs.getD k 0 = (X : Int) := ⟨(xs.getD k 0).toNat, by omega⟩
          obtain ⟨Y, hY⟩ : ∃ Y : Nat, xs.getD j 0 = (Y : Int) := ⟨(xs.getD j 0).toNat, by omega⟩
          rw [hX] at hck0 b1
          rw [hY] at hcj0 b2
          have HTX : Hid (T (xs.getD k 0).toNat (xs.getD j 0).toNat ↔ T X Y) := by unfold Hid; rw [hX, hY, Int.toNat_natCast, Int.toNat_natCast]
          have hck := cell_later hL hck0
          have hcj := cell_later hL hcj0
          have hXn : X < n := by omega
          have hYn : Y < n := by omega
          obtain ⟨gb, gc, eO, hc3, _, _⟩ := HM.out.cell hXn
          obtain ⟨xb, xc, hVX, hxy, _, _, _⟩ := (HM.out.2 X hXn).1.cell hYn
          simp only [Value.slice.injEq, true_and] at eO
          obtain ⟨rfl, rfl⟩ := eO
          rw [hVX] at hc3
          have d3 := cell_later hL hc3
          have d4 := cell_later hL hxy
          have hj1 : (j : Int) < (k : Int) := by omega
          have hjl1 : (j : Int) < (l : Int) := by omega
          have hj0 : (0 : Int) ≤ (j : Int) := by omega
          have hX0 : (0 : Int) ≤ (X : Int) := by omega
          have hX1 : (X : Int) < (n : Int) := by omega
          have hY0 : (0 : Int) ≤ (Y : Int) := by omega
          have hY1 : (Y : Int) < (n : Int) := by omega
          clear hck0 hcj0 hX hY hc3 hxy hVX b1 b2
          dsimp only at d4
          cases ht : bP (T X Y)
          · have HB := Lib.hid (hF.out fun h => bP_out ht (HTX.out.1 h))
            rw [ht] at d4
            clear ht
            go_wp2_with fail
            go_quiet (fail)
            go_wp2_with fail
            go_ret
            exact ⟨by rw [HB.out]; rfl, by first | exact Bdrew hL _ | go_grown⟩
          · have HO := Lib.hid (HQS.out (HTX.out.2 (bP_iff.1 ht)))
            rw [ht] at d4
            clear ht
            go_wp2_with fail
            go_quiet (fail)
            go_wp2_with fail
            go_roundw
            case rel => exact ⟨j + 1, by omega, by go_num, Bdrew hL _, HO⟩
            case measure => simp [intOf]; omega
        · have e : j = k := by omega
          have hjn : ¬ (j : Int) < (k : Int) := by omega
          have HO : Hid (∀ i, i < k + 1 → ∀ b, b < i → T (xs.getD i 0).toNat (xs.getD b 0).toNat) := fun i hi b hb => by
            rcases Nat.lt_or_ge i k with h2 | h2
            · exact hP.out i h2 b hb
            · have e2 : i = k := by omega
              subst e2; exact hQ.out b (by omega)
          clear e
          go_wp2_with fail
          go_roundw
          case rel => exact ⟨k + 1, by omega, by go_num, hL, HO⟩
          case measure => simp [intOf]; omega
    · have e : k = l := by omega
      have hkn : ¬ (k : Int) < (l : Int) := by omega
      have HB := Lib.hid (HT.out (by rw [← e]; exact hP.out))
      clear e
      go_wp2_with fail
      go_ret
      exact ⟨by rw [HB.out]; rfl, hL⟩

/-! ### GoTogether -/
noncomputable def resGoTogether_0 (p : Int) (xss yss : List (List Int)) (xs : List Int) : Bool := if chaB p xss yss = true ∧ ascB (xss.length : Int) xs then goL (Tog xss yss xss.length p.toNat) xs else false
def resGoTogether_1 (p : Int) (xss yss : List (List Int)) (xs : List Int) : Int := if chaB p xss yss = true then (if ascB (xss.length : Int) xs then 0 else 2) else 1
theorem asc_len {n : Nat} {xs : List Int} (h : ascB (n : Int) xs) : xs.length ≤ n := by
  have h1 : ∀ i, i < xs.length → (i : Int) ≤ xs.getD i 0 := fun i => by
    induction i with
    | zero => intro hi; exact (h 0 hi).1.1
    | succ i ih =>
      intro hi
      have h2 := ih (by omega)
      have h3 := (h (i + 1) hi).2 (by omega)
      simp only [Nat.add_sub_cancel] at h3
      omega
  rcases Nat.eq_zero_or_pos xs.length with h2 | h2
  · omega
  · have h3 := h1 (xs.length - 1) (by omega)
    have h4 := (h (xs.length - 1) (by omega)).1.2
    omega

set_option maxRecDepth 100000 in
set_option maxHeartbeats 1000000 in
theorem iGoTogether_any (v : Value) (p : Int) (xss yss : List (List Int)) (vs : Value) (xs : List Int) (w : World) (ha : ReadsH w v p xss yss) (hs : Reads w vs xs) :
    Calls Try.prog 37 #[v, vs] w fun e w' => e = .returned (.tuple #[.bool (resGoTogether_0 p xss yss xs), .int .i64 (resGoTogether_1 p xss yss xs)]) ∧ Below w.heap.size w w' := by
  obtain ⟨b, hb⟩ : ∃ b, chaB p xss yss = b := ⟨_, rfl⟩
  have HC := Lib.hid (fun w' (h : Below w.heap.size w w') => isChart_any v p xss yss w' (ha.keep h) hb)
  have HRI := Lib.hid (fun w' (h : Below w.heap.size w w') => rowsIn_any v p xss yss w' (ha.keep h))
  cases b
  · have HR : Hid (resGoTogether_0 p xss yss xs = false ∧ resGoTogether_1 p xss yss xs = 1) := by
      unfold resGoTogether_0 resGoTogether_1; rw [hb]; exact ⟨rfl, rfl⟩
    obtain ⟨a, ca, b', cb, rfl, _, _⟩ := ha
    obtain ⟨sa, sc, rfl, _, _⟩ := hs
    have h0 := C3.here w (.int .i64 p) (.slice a xss.length ca) (.slice b' yss.length cb) 27
    clear hb
    generalize xss.length = n at *
    generalize yss.length = m at *
    generalize xs.length = l at *
    go_enter Try.func37, Try.ntmps37
    go_wp2_with ((go_at_call 18; (with_reducible refine (HC.out _ (by go_grown)).mono ?_); rintro e w' ⟨rfl, hb⟩; have hL := chain (B := w.heap.size) (a := w) (by go_grown) (Nat.le_refl _) hb; (first | replace h0 := keepAt3 hb h0 | replace h0 := keepAt3 hb (C3.alloc h0 _)); clear hb))
    go_ret2
    exact ⟨by rw [HR.out.1, HR.out.2]; rfl, hL⟩
  · obtain ⟨d, hd⟩ : ∃ d, decide (ascB (xss.length : Int) xs) = d := ⟨_, rfl⟩
    have HA := Lib.hid (fun w' (h : Below w.heap.size w w') => asc_b vs (xss.length : Int) xs w' (hs.keep h) hd)
    obtain ⟨n1, n8⟩ := (chaB_out hb).1
    cases d
    · have hna := of_decide_eq_false hd
      have HR : Hid (resGoTogether_0 p xss yss xs = false ∧ resGoTogether_1 p xss yss xs = 2) := by
        unfold resGoTogether_0 resGoTogether_1; rw [if_pos hb, if_neg (fun h => hna h.2), if_neg hna]; exact ⟨rfl, rfl⟩
      obtain ⟨a, ca, b', cb, rfl, _, _⟩ := ha
      obtain ⟨sa, sc, rfl, _, _⟩ := hs
      have h0 := C3.here w (.int .i64 p) (.slice a xss.length ca) (.slice b' yss.length cb) 27
      clear hb hd hna
      generalize xss.length = n at *
      generalize yss.length = m at *
      generalize xs.length = l at *
      go_enter Try.func37, Try.ntmps37
      go_wp2_with (first | (go_at_call 18; (with_reducible refine (HC.out _ (by go_grown)).mono ?_); rintro e w' ⟨rfl, hb⟩; have hL := chain (B := w.heap.size) (a := w) (by go_grown) (Nat.le_refl _) hb; (first | replace h0 := keepAt3 hb h0 | replace h0 := keepAt3 hb (C3.alloc h0 _)); clear hb) | (go_at_call 54; (with_reducible refine (HRI.out _ (by go_grown)).mono ?_); rintro e w' ⟨rfl, hb⟩; have hL := chain (B := w.heap.size) (a := w) (by go_grown) (Nat.le_refl _) hb; (first | replace h0 := keepAt3 hb h0 | replace h0 := keepAt3 hb (C3.alloc h0 _)); clear hb) | (go_at_call 69; (with_reducible refine (HA.out _ (by go_grown)).mono ?_); rintro e w' ⟨rfl, rfl⟩))
      go_ret2
      exact ⟨by rw [HR.out.1, HR.out.2]; rfl, hL⟩
    · have hya := of_decide_eq_true hd
      have HR : Hid (resGoTogether_0 p xss yss xs = goL (Tog xss yss xss.length p.toNat) xs ∧ resGoTogether_1 p xss yss xs = 0) := by
        unfold resGoTogether_0 resGoTogether_1; rw [if_pos hb, if_pos ⟨hb, hya⟩, if_pos hya]; exact ⟨rfl, rfl⟩
      have HCI := Lib.hid (fun w' (h : Below w.heap.size w w') => companyIn_any v p xss yss w' (ha.keep h) hb)
      have HSO := Lib.hid (fun w' (h : Below w.heap.size w w') => setOf8_any vs xs w' (hs.keep h) (fun i hi => by have := (hya i hi).1; omega))
      have HGT : Hid (∀ w, Calls Try.prog 70 #[arrV (matZ (Tog xss yss xss.length p.toNat)), .int .i64 ((rowN (memQ xs xs.length) : Nat) : Int)] w fun e w' => e = .returned (.bool (goL (Tog xss yss xss.length p.toNat) xs)) ∧ Below w.heap.size w w') := fun w => by
        have h1 := goTogether_any (Tog xss yss xss.length p.toNat) (memQ xs xs.length) w
        rwa [go_same hb rfl (show p = ((p.toNat : Nat) : Int) by have := (chaB_out hb).2.1; omega) hya] at h1
      unfold arrV at HCI HGT
      obtain ⟨a, ca, b', cb, rfl, _, _⟩ := ha
      obtain ⟨sa, sc, rfl, _, _⟩ := hs
      have h0 := C3.here w (.int .i64 p) (.slice a xss.length ca) (.slice b' yss.length cb) 27
      clear hb hd hya
      generalize matZ (Tog xss yss xss.length p.toNat) = T at *
      generalize ((rowN (memQ xs xs.length) : Nat) : Int) = S at *
      generalize goL (Tog xss yss xss.length p.toNat) xs = gb at *
      generalize xss.length = n at *
      generalize yss.length = m at *
      generalize xs.length = l at *
      go_enter Try.func37, Try.ntmps37
      go_upto_region 5 with (first | (go_at_call 18; (with_reducible refine (HC.out _ (by go_grown)).mono ?_); rintro e w' ⟨rfl, hb⟩; have hL := chain (B := w.heap.size) (a := w) (by go_grown) (Nat.le_refl _) hb; (first | replace h0 := keepAt3 hb h0 | replace h0 := keepAt3 hb (C3.alloc h0 _)); clear hb) | (go_at_call 54; (with_reducible refine (HRI.out _ (by go_grown)).mono ?_); rintro e w' ⟨rfl, hb⟩; have hL := chain (B := w.heap.size) (a := w) (by go_grown) (Nat.le_refl _) hb; (first | replace h0 := keepAt3 hb h0 | replace h0 := keepAt3 hb (C3.alloc h0 _)); clear hb) | (go_at_call 69; (with_reducible refine (HA.out _ (by go_grown)).mono ?_); rintro e w' ⟨rfl, rfl⟩))
      go_wp2_with (first | (go_at_call 65; (with_reducible refine (HCI.out _ (by go_grown)).mono ?_); rintro e w' ⟨rfl, hb⟩; have hL := chain (B := w.heap.size) (a := w) (by go_grown) (Nat.le_refl _) hb; (first | replace h0 := keepAt3 hb h0 | replace h0 := keepAt3 hb (C3.alloc h0 _)); clear hb) | (go_at_call 71; (with_reducible refine (HSO.out _ (by go_grown)).mono ?_); rintro e w' ⟨rfl, rfl⟩) | (go_at_call 70; (with_reducible refine (HGT.out _).mono ?_); rintro e w' ⟨rfl, hb⟩; have hL := chain (B := w.heap.size) (a := w) (by go_grown) (Nat.le_refl _) hb; (first | replace h0 := keepAt3 hb h0 | replace h0 := keepAt3 hb (C3.alloc h0 _)); clear hb))
      go_ret2
      exact ⟨by rw [HR.out.1, HR.out.2]; rfl, hL⟩

set_option maxRecDepth 100000 in
set_option maxHeartbeats 1000000 in
theorem sGoTogether_any (v : Value) (p : Int) (xss yss : List (List Int)) (vs : Value) (xs : List Int) (w : World) (ha : ReadsH w v p xss yss) (hs : Reads w vs xs) :
    Calls Try.prog 36 #[v, vs] w fun e w' => e = .returned (.tuple #[.bool (resGoTogether_0 p xss yss xs), .int .i64 (resGoTogether_1 p xss yss xs)]) ∧ Below w.heap.size w w' := by
  obtain ⟨b, hb⟩ : ∃ b, chaB p xss yss = b := ⟨_, rfl⟩
  have HC := Lib.hid (fun w' (h : Below w.heap.size w w') => l07Is_any v p xss yss w' (ha.keep h) hb)
  cases b
  · have HR : Hid (resGoTogether_0 p xss yss xs = false ∧ resGoTogether_1 p xss yss xs = 1) := by
      unfold resGoTogether_0 resGoTogether_1; rw [hb]; exact ⟨rfl, rfl⟩
    obtain ⟨a, ca, b', cb, rfl, _, _⟩ := ha
    obtain ⟨sa, sc, rfl, _, _⟩ := hs
    have h0 := C3.here w (.int .i64 p) (.slice a xss.length ca) (.slice b' yss.length cb) 27
    clear hb
    generalize xss.length = n at *
    generalize yss.length = m at *
    generalize xs.length = l at *
    go_enter Try.func36, Try.ntmps36
    go_wp2_with ((go_at_call 53; (with_reducible refine (HC.out _ (by go_grown)).mono ?_); rintro e w' ⟨rfl, hb⟩; have hL := chain (B := w.heap.size) (a := w) (by go_grown) (Nat.le_refl _) hb; (first | replace h0 := keepAt3 hb h0 | replace h0 := keepAt3 hb (C3.alloc h0 _)); clear hb))
    go_ret2
    exact ⟨by rw [HR.out.1, HR.out.2]; rfl, hL⟩
  · obtain ⟨d, hd⟩ : ∃ d, decide (ascB (xss.length : Int) xs) = d := ⟨_, rfl⟩
    obtain ⟨n1, n8⟩ := (chaB_out hb).1
    have HA := Lib.hid (fun w' (h : Below w.heap.size w w') => l07Rows_any v vs p xss yss xs w' (ha.keep h) (hs.keep h) n1 n8 hd)
    cases d
    · have hna := of_decide_eq_false hd
      have HR : Hid (resGoTogether_0 p xss yss xs = false ∧ resGoTogether_1 p xss yss xs = 2) := by
        unfold resGoTogether_0 resGoTogether_1; rw [if_pos hb, if_neg (fun h => hna h.2), if_neg hna]; exact ⟨rfl, rfl⟩
      obtain ⟨a, ca, b', cb, rfl, _, _⟩ := ha
      obtain ⟨sa, sc, rfl, _, _⟩ := hs
      have h0 := C3.here w (.int .i64 p) (.slice a xss.length ca) (.slice b' yss.length cb) 27
      clear hb hd hna
      generalize xss.length = n at *
      generalize yss.length = m at *
      generalize xs.length = l at *
      go_enter Try.func36, Try.ntmps36
      go_wp2_with (first | (go_at_call 53; (with_reducible refine (HC.out _ (by go_grown)).mono ?_); rintro e w' ⟨rfl, hb⟩; have hL := chain (B := w.heap.size) (a := w) (by go_grown) (Nat.le_refl _) hb; (first | replace h0 := keepAt3 hb h0 | replace h0 := keepAt3 hb (C3.alloc h0 _)); clear hb) | (go_at_call 67; (with_reducible refine (HA.out _ (by go_grown)).mono ?_); rintro e w' ⟨rfl, hb⟩; have hL := chain (B := w.heap.size) (a := w) (by go_grown) (Nat.le_refl _) hb; (first | replace h0 := keepAt3 hb h0 | replace h0 := keepAt3 hb (C3.alloc h0 _)); clear hb))
      go_ret2
      exact ⟨by rw [HR.out.1, HR.out.2]; rfl, hL⟩
    · have hya := of_decide_eq_true hd
      have HR : Hid (resGoTogether_0 p xss yss xs = goL (Tog xss yss xss.length p.toNat) xs ∧ resGoTogether_1 p xss yss xs = 0) := by
        unfold resGoTogether_0 resGoTogether_1; rw [if_pos hb, if_pos ⟨hb, hya⟩, if_pos hya]; exact ⟨rfl, rfl⟩
      have HTO := Lib.hid (fun w' (h : Below w.heap.size w w') => l07Together_any v p xss yss w' (ha.keep h) hb)
      have hlen := asc_len hya
      have HGO := Lib.hid (fun (u : Value) (B : Nat) (V : Nat → Value) w' (h : Below w.heap.size w w') (hM : MatB w' B u xss.length xss.length V (fun a b => bP (Tog xss yss xss.length p.toNat a b))) => l07Good_any u vs B xss.length V (Tog xss yss xss.length p.toNat) xs w' hM (hs.keep h) (fun i hi => (hya i hi).1) (by omega))
      obtain ⟨a, ca, b', cb, rfl, _, _⟩ := ha
      obtain ⟨sa, sc, rfl, _, _⟩ := hs
      have h0 := C3.here w (.int .i64 p) (.slice a xss.length ca) (.slice b' yss.length cb) 27
      clear hb hd hya hlen
      generalize goL (Tog xss yss xss.length p.toNat) xs = gb at *
      generalize Tog xss yss xss.length p.toNat = T at *
      generalize xss.length = n at *
      generalize yss.length = m at *
      generalize xs.length = l at *
      go_enter Try.func36, Try.ntmps36
      go_upto_region 5 with (first | (go_at_call 53; (with_reducible refine (HC.out _ (by go_grown)).mono ?_); rintro e w' ⟨rfl, hb⟩; have hL := chain (B := w.heap.size) (a := w) (by go_grown) (Nat.le_refl _) hb; (first | replace h0 := keepAt3 hb h0 | replace h0 := keepAt3 hb (C3.alloc h0 _)); clear hb) | (go_at_call 67; (with_reducible refine (HA.out _ (by go_grown)).mono ?_); rintro e w' ⟨rfl, hb⟩; have hL := chain (B := w.heap.size) (a := w) (by go_grown) (Nat.le_refl _) hb; (first | replace h0 := keepAt3 hb h0 | replace h0 := keepAt3 hb (C3.alloc h0 _)); clear hb))
      go_wp2_with fail
      refine (HTO.out _ (by go_grown)).mono ?_
      rintro e w2 ⟨u, V, rfl, hM, hb⟩
      have hL2 := chain (B := w.heap.size) (a := w) (by go_grown) (Nat.le_refl _) hb
      have HM := Lib.hid hM
      obtain ⟨ua, uc, rfl⟩ := hM.form
      clear hb hM
      go_wp2_with fail
      refine (HGO.out _ _ _ _ hL2 HM.out).mono ?_
      rintro e w3 ⟨rfl, hb⟩
      have hL3 := chain (B := w.heap.size) (a := w) hL2 (Nat.le_refl _) hb
      clear hb
      go_wp2_with fail
      go_ret2
      exact ⟨by rw [HR.out.1, HR.out.2]; rfl, hL3⟩

end Go.Proofs.Ytnlcnbkookmfaaa
