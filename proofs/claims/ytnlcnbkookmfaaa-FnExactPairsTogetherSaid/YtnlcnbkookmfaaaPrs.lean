/- PairsTogether: the program's and the model's. -/
import Derived.Test.YtnlcnbkookmfaaaTgS
import Derived.Test.YtnlcnbkookmfaaaCin
namespace Go.Proofs.Ytnlcnbkookmfaaa
open Go.RowKit
set_option linter.unusedVariables false

/-- the pairs, the lesser row first -/
noncomputable def togB (xss yss : List (List Int)) (n M a b : Nat) : Bool := decide (a < b) && bP (Tog xss yss n M a b)
noncomputable def resPairsTogether_0 (p : Int) (xss yss : List (List Int)) : List (List Int) := if chaB p xss yss = true then prTo (togB xss yss xss.length p.toNat) xss.length xss.length else []
def resPairsTogether_1 (p : Int) (xss yss : List (List Int)) : Int := if chaB p xss yss = true then 0 else 1
theorem lenPairsTogether_0 (p : Int) (xss yss : List (List Int)) : (resPairsTogether_0 p xss yss).length ≤ 100000 ∧ (resPairsTogether_0 p xss yss).length + sumLen (resPairsTogether_0 p xss yss) (resPairsTogether_0 p xss yss).length ≤ 1000000 ∧ ∀ i, i < (resPairsTogether_0 p xss yss).length → ((resPairsTogether_0 p xss yss).getD i []).length ≤ 1048576 := by
  unfold resPairsTogether_0
  by_cases h : chaB p xss yss = true
  · rw [if_pos h]
    obtain ⟨⟨n1, n8⟩, _, _⟩ := chaB_out h
    have h1 := prTo_len (togB xss yss xss.length p.toNat) n8 xss.length
    exact short (prTo_two _ _ _) (by decide) (by omega)
  · rw [if_neg h]; exact short (c := 0) (fun r hr => by cases hr) (by decide) (by simp)

set_option maxRecDepth 100000 in
set_option maxHeartbeats 4000000 in
theorem iPairsTogether_g (v : Value) (p : Int) (xss yss : List (List Int)) (w : World) (ha : ReadsH w v p xss yss) :
    Calls Try.prog 35 #[v] w fun e w' => ∃ sa sc, e = .returned (.tuple #[.slice sa (resPairsTogether_0 p xss yss).length sc, .int .i64 (resPairsTogether_1 p xss yss)]) ∧ Own2 w' w.heap.size w'.heap.size (.slice sa (resPairsTogether_0 p xss yss).length sc) (resPairsTogether_0 p xss yss) ∧ Below w.heap.size w w' := by
  obtain ⟨i0, hi0, hz0, hz1, hz2⟩ := info_parts infoRow
  obtain ⟨b, hb⟩ : ∃ b, chaB p xss yss = b := ⟨_, rfl⟩
  have HC := Lib.hid (fun w' (h : Below w.heap.size w w') => isChart_any v p xss yss w' (ha.keep h) hb)
  cases b
  · have HR : Hid (resPairsTogether_0 p xss yss = [] ∧ resPairsTogether_1 p xss yss = 1) := by
      unfold resPairsTogether_0 resPairsTogether_1; rw [hb]; exact ⟨rfl, rfl⟩
    obtain ⟨a, ca, b', cb, rfl, _, _⟩ := ha
    have h0 := C3.here w (.int .i64 p) (.slice a xss.length ca) (.slice b' yss.length cb) 27
    clear hb
    generalize xss.length = n at *
    generalize yss.length = m at *
    go_enter Try.func35, Try.ntmps35
    go_wp2_with ((go_at_call 18; (with_reducible refine (HC.out _ (by go_grown)).mono ?_); rintro e w' ⟨rfl, hb⟩; have hL := chain (B := w.heap.size) (a := w) (by go_grown) (Nat.le_refl _) hb; (first | replace h0 := keepAt3 hb h0 | replace h0 := keepAt3 hb (C3.alloc h0 _)); clear hb))
    go_ret2
    exact ⟨none, 0, by rw [HR.out.1, HR.out.2]; rfl, by rw [HR.out.1]; exact own2Nil _ _ _, hL⟩
  · obtain ⟨⟨n1, n8⟩, -, -⟩ := chaB_out hb
    have HR : Hid (resPairsTogether_0 p xss yss = prTo (togB xss yss xss.length p.toNat) xss.length xss.length ∧ resPairsTogether_1 p xss yss = 0) := by
      unfold resPairsTogether_0 resPairsTogether_1; rw [hb]; exact ⟨rfl, rfl⟩
    have HRI := Lib.hid (fun w' (h : Below w.heap.size w w') => rowsIn_any v p xss yss w' (ha.keep h))
    have HCI := Lib.hid (fun w' (h : Below w.heap.size w w') => companyIn_any v p xss yss w' (ha.keep h) hb)
    have HTD : Hid (∀ k j : Nat, k < j → j < 8 → digZ (matZ (Tog xss yss xss.length p.toNat) k) (j : Int) = ((togB xss yss xss.length p.toNat k j).toNat : Int)) := fun k j hkj hj => by
      unfold digZ matZ togB
      rw [Int.toNat_natCast, Int.toNat_natCast, rowN_dig _ hj, decide_eq_true hkj, Bool.true_and]
    have HTF : Hid (∀ k s : Nat, s ≤ k → togB xss yss xss.length p.toNat k s = false) := fun k s h => by
      unfold togB; rw [decide_eq_false (by omega)]; rfl
    have HMB := Lib.hid (fun k => matZ_bd (Tog xss yss xss.length p.toNat) k)
    have HEN : Hid (arrC (matZ (Tog xss yss xss.length p.toNat)) = #[.int .i64 (matZ (Tog xss yss xss.length p.toNat) 0), .int .i64 (matZ (Tog xss yss xss.length p.toNat) 1), .int .i64 (matZ (Tog xss yss xss.length p.toNat) 2), .int .i64 (matZ (Tog xss yss xss.length p.toNat) 3), .int .i64 (matZ (Tog xss yss xss.length p.toNat) 4), .int .i64 (matZ (Tog xss yss xss.length p.toNat) 5), .int .i64 (matZ (Tog xss yss xss.length p.toNat) 6), .int .i64 (matZ (Tog xss yss xss.length p.toNat) 7)]) := rfl
    unfold arrV at HCI
    obtain ⟨a, ca, b', cb, rfl, h1, _⟩ := ha
    have h0 := C3.here w (.int .i64 p) (.slice a xss.length ca) (.slice b' yss.length cb) 27
    generalize matZ (Tog xss yss xss.length p.toNat) = T at *
    generalize togB xss yss xss.length p.toNat = C at *
    have HL1 := Lib.hid (fun k => prTo_len C (M := xss.length) n8 k)
    have HS1 := Lib.hid (fun k => prTo_succ C xss.length k)
    clear hb h1
    generalize hn : xss.length = n at *
    generalize yss.length = m at *
    clear hn
    go_enter Try.func35, Try.ntmps35
    go_upto_region 3 with ((go_at_call 18; (with_reducible refine (HC.out _ (by go_grown)).mono ?_); rintro e w' ⟨rfl, hb⟩; have hL := chain (B := w.heap.size) (a := w) (by go_grown) (Nat.le_refl _) hb; (first | replace h0 := keepAt3 hb h0 | replace h0 := keepAt3 hb (C3.alloc h0 _)); clear hb))
    go_wp2_with fail
    refine (HCI.out _ hL).mono ?_
    rintro e wc ⟨rfl, hb⟩
    replace hL := chain (B := w.heap.size) (a := w) hL (Nat.le_refl _) hb
    replace h0 := keepAt3 hb h0
    have a1 := Arr8.here wc T 68
    rw [HEN.out] at a1
    have hgz : Hid (w.heap.size + 1 ≤ wc.heap.size) := h0.lt
    have hL2 : Hid (Below w.heap.size w (wc.alloc (.cells #[.int .i64 (T 0), .int .i64 (T 1), .int .i64 (T 2), .int .i64 (T 3), .int .i64 (T 4), .int .i64 (T 5), .int .i64 (T 6), .int .i64 (T 7)] 68))) := hL.alloc (by have := h0.lt; omega) _
    have h02 : Hid (C3 (wc.alloc (.cells #[.int .i64 (T 0), .int .i64 (T 1), .int .i64 (T 2), .int .i64 (T 3), .int .i64 (T 4), .int .i64 (T 5), .int .i64 (T 6), .int .i64 (T 7)] 68)) w.heap.size (.int .i64 p) (.slice a n ca) (.slice b' m cb)) := h0.alloc _
    have A1 := Lib.hid a1
    have hwz : Hid (wc.heap.size + 1 ≤ (wc.alloc (.cells #[.int .i64 (T 0), .int .i64 (T 1), .int .i64 (T 2), .int .i64 (T 3), .int .i64 (T 4), .int .i64 (T 5), .int .i64 (T 6), .int .i64 (T 7)] 68)).heap.size) := by unfold Hid; simp
    clear hb hL h0 a1
    go_upto_region 4 with fail
    generalize wc.alloc (.cells #[.int .i64 (T 0), .int .i64 (T 1), .int .i64 (T 2), .int .i64 (T 3), .int .i64 (T 4), .int .i64 (T 5), .int .i64 (T 6), .int .i64 (T 7)] 68) = W at *
    have hL := hL2.out
    have h0 := h02.out
    clear hL2 h02 HEN
    obtain ⟨G, hG⟩ : ∃ G, wc.heap.size = G := ⟨_, rfl⟩
    rw [hG] at A1 hgz hwz
    rw [hG]
    clear hG
    go_wp2_with fail
    refine (HRI.out _ hL).mono ?_
    rintro e w1 ⟨rfl, hb⟩
    replace hL := chain (B := w.heap.size) (a := w) hL (Nat.le_refl _) hb
    replace h0 := keepAt3 hb h0
    replace A1 := Lib.hid (arr8At hb A1.out)
    clear hb
    go_wp2_with fail
    go_loopw [5, 15] (fun u c wr => ∃ k : Nat, k ≤ n ∧ c = .int .i64 (k : Int) ∧ Below w.heap.size w wr ∧ C3 wr w.heap.size (.int .i64 p) (.slice a n ca) (.slice b' m cb) ∧ Hid (Arr8 wr G T) ∧ Hid (Own2 wr (G + 1) wr.heap.size u (prTo C n k))) (fun _ c _ => n - (intOf c).toNat)
    case atStart => exact ⟨0, Nat.zero_le _, rfl, hL, h0, A1, own2Nil _ _ _⟩
    case round =>
      clear hL h0 A1
      obtain ⟨k, hk, rfl, hL, h0, A1, hO⟩ := hrel
      by_cases hkl : k < n
      · have hk1 : (k : Int) < (n : Int) := by omega
        have hk0 : (0 : Int) ≤ (k : Int) := by omega
        have hk8 : (k : Int) < 8 := by omega
        have HTk := HL1.out k
        have HPN : Hid (prRow C k (k + 1) = []) := prRow_none fun s hs => HTF.out k s (by omega)
        have hkb := HMB.out k
        have HDk := Lib.hid (HTD.out k)
        obtain ⟨TK, hTK⟩ : ∃ x, T k = x := ⟨_, rfl⟩
        have HTK := Lib.hid hTK
        rw [hTK] at hkb HDk
        clear hTK
        go_wp2_with fail
        go_loopw [5, 7] (fun u c wy => ∃ j : Nat, k + 1 ≤ j ∧ j ≤ n ∧ c = .int .i64 (j : Int) ∧ Below w.heap.size w wy ∧ C3 wy w.heap.size (.int .i64 p) (.slice a n ca) (.slice b' m cb) ∧ Hid (Arr8 wy G T) ∧ Hid (Own2 wy (G + 1) wy.heap.size u (prTo C n k ++ prRow C k j))) (fun _ c _ => n - (intOf c).toNat)
        case atStart => exact ⟨k + 1, Nat.le_refl _, by omega, by go_num, hL, h0, A1, by rw [HPN.out, List.append_nil]; exact hO⟩
        case round =>
          clear hL h0 hO A1
          obtain ⟨j, hj0', hj, rfl, hL, h0, A1, hO⟩ := hrel
          by_cases hjl : j < n
          · have hj1 : (j : Int) < (n : Int) := by omega
            have hj0 : (0 : Int) ≤ (j : Int) := by omega
            have Hl : (prTo C n k ++ prRow C k j).length ≤ 400 := by rw [List.length_append]; have := prRow_len C k j; omega
            have HDA := Lib.hid (fun w => digitAt_any TK (j : Int) w hkb.1 (by omega) hj0 (by omega))
            rw [HDk.out j (by omega) (by omega)] at HDA
            have hck := (A1.out.1 k (by omega)).1
            rw [HTK.out] at hck
            cases hq : C k j
            · have HN : Hid (prTo C n k ++ prRow C k (j + 1) = prTo C n k ++ prRow C k j) := by rw [Hid, prRow_miss hq]
              rw [hq] at HDA
              clear hq
              generalize prTo C n k ++ prRow C k j = L at *
              go_wp2_with fail
              refine (HRI.out _ hL).mono ?_
              rintro e w2 ⟨rfl, hb⟩
              replace hL := chain (B := w.heap.size) (a := w) hL (Nat.le_refl _) hb
              replace h0 := keepAt3 hb h0
              replace A1 := Lib.hid (arr8At hb A1.out)
              replace hO := Lib.hid (hO.out.later hb)
              clear hb
              have hck := (A1.out.1 k (by omega)).1
              rw [HTK.out] at hck
              go_wp2_with ((go_at_call 66; (with_reducible refine (HDA.out _).mono ?_); rintro e w' ⟨rfl, rfl⟩))
              exact ⟨⟨j + 1, by omega, by omega, by go_num, hL, h0, A1, by rw [HN.out]; exact hO⟩, by simp [intOf]; omega⟩
            · have HN : Hid (prTo C n k ++ prRow C k (j + 1) = (prTo C n k ++ prRow C k j) ++ [[(k : Int), (j : Int)]]) := by rw [Hid, prRow_hit hq, List.append_assoc]
              rw [hq] at HDA
              clear hq
              generalize prTo C n k ++ prRow C k j = L at *
              go_wp2_with fail
              refine (HRI.out _ hL).mono ?_
              rintro e w2 ⟨rfl, hb⟩
              replace hL := chain (B := w.heap.size) (a := w) hL (Nat.le_refl _) hb
              replace h0 := keepAt3 hb h0
              replace A1 := Lib.hid (arr8At hb A1.out)
              replace hO := Lib.hid (hO.out.later hb)
              clear hb
              have hck := (A1.out.1 k (by omega)).1
              rw [HTK.out] at hck
              have hkb' := h0.lt
              have hGz := A1.out.2
              have hfrom := Lib.hid hO.out.from
              have HRows := Lib.hid (fun o => hO.out.asRows ((Below.refl _ _).alloc (Nat.le_refl _) (.cells #[.int .i64 (k : Int), .int .i64 (j : Int)] 2)) o)
              have HTwo := Lib.hid (ownsTwo w2 (k : Int) (j : Int) w2.heap.size (Nat.le_refl _))
              go_wp2_with (first | (go_at_call 66; (with_reducible refine (HDA.out _).mono ?_); rintro e w' ⟨rfl, rfl⟩) | (at_builtin; refine wpList_append_own_at _ rfl _ _ 22 rfl (G + 1) 36 i0 (.slice none 0 0) 1 24 Try.underlying22 hi0 hz0 hz1 hz2 rfl (by decide) _ L.length ((List.range L.length).map (Classical.choose hO.out)) rfl (HRows.out _) ⟨w2.heap.size + 1, 0, none⟩ 1 1 [.slice (some ⟨w2.heap.size, 0, none⟩) 2 2] rfl rfl (by have h := cell_one_new (w2.alloc (.cells #[.int .i64 (k : Int), .int .i64 (j : Int)] 2)) (.slice (some ⟨w2.heap.size, 0, none⟩) 2 2) 36; rw [World.size_alloc] at h; exact h) (by simp [Value.oneCell']) (by unfold maxLen; omega) (by omega) (by simp; omega) ?_; intro v' w3 hown' hgrow hnil hat))
              have HO3 := Lib.hid (Own2.more _ hO.out (by omega) ((Below.refl _ _).alloc (Nat.le_refl _) _) HTwo.out hown' hgrow hat)
              exact ⟨⟨j + 1, by omega, by omega, by go_num, ((hL.alloc (by omega) _).alloc (by simp; omega) _).grown hgrow (by simp; omega) (fun q e => by have := hfrom.out q e; have := hgz.out; omega), ((h0.alloc _).alloc _).grown hgrow (fun e => by have := hfrom.out _ e; have := hgz.out; omega), ((A1.out.alloc _).alloc _).grown hgrow (fun e => by have := hfrom.out _ e; omega), by rw [HN.out]; exact HO3⟩, by simp [intOf]; omega⟩
          · have e : j = n := by omega
            have hjn : ¬ (j : Int) < (n : Int) := by omega
            rw [e, ← HS1.out] at hO
            clear e
            go_wp2_with fail
            refine (HRI.out _ hL).mono ?_
            rintro e w2 ⟨rfl, hb⟩
            replace hL := chain (B := w.heap.size) (a := w) hL (Nat.le_refl _) hb
            replace h0 := keepAt3 hb h0
            replace A1 := Lib.hid (arr8At hb A1.out)
            replace hO := Lib.hid (hO.out.later hb)
            clear hb
            go_wp2_with fail
            exact ⟨⟨k + 1, by omega, by go_num, hL, h0, A1, hO⟩, by simp [intOf]; omega⟩
      · have e : k = n := by omega
        have hkn : ¬ (k : Int) < (n : Int) := by omega
        rw [e, ← HR.out.1] at hO
        clear e
        obtain ⟨sa, sc, rfl, _⟩ := hO.out.reads
        go_wp2_with fail
        go_ret2
        exact ⟨sa, sc, by rw [HR.out.2]; rfl, hO.out.mono (by have := hgz.out; omega) (Nat.le_refl _), hL⟩

set_option maxRecDepth 100000 in
set_option maxHeartbeats 4000000 in
theorem sPairsTogether_g (v : Value) (p : Int) (xss yss : List (List Int)) (w : World) (ha : ReadsH w v p xss yss) :
    Calls Try.prog 34 #[v] w fun e w' => ∃ sa sc, e = .returned (.tuple #[.slice sa (resPairsTogether_0 p xss yss).length sc, .int .i64 (resPairsTogether_1 p xss yss)]) ∧ Reads2 w' (.slice sa (resPairsTogether_0 p xss yss).length sc) (resPairsTogether_0 p xss yss) ∧ Below w.heap.size w w' := by
  obtain ⟨i0, hi0, hz0, hz1, hz2⟩ := info_parts infoRow
  obtain ⟨b, hb⟩ : ∃ b, chaB p xss yss = b := ⟨_, rfl⟩
  have HC := Lib.hid (fun w' (h : Below w.heap.size w w') => l07Is_any v p xss yss w' (ha.keep h) hb)
  cases b
  · have HR : Hid (resPairsTogether_0 p xss yss = [] ∧ resPairsTogether_1 p xss yss = 1) := by
      unfold resPairsTogether_0 resPairsTogether_1; rw [hb]; exact ⟨rfl, rfl⟩
    obtain ⟨a, ca, b', cb, rfl, _, _⟩ := ha
    have h0 := C3.here w (.int .i64 p) (.slice a xss.length ca) (.slice b' yss.length cb) 27
    clear hb
    generalize xss.length = n at *
    generalize yss.length = m at *
    go_enter Try.func34, Try.ntmps34
    go_wp2_with ((go_at_call 53; (with_reducible refine (HC.out _ (by go_grown)).mono ?_); rintro e w' ⟨rfl, hb⟩; have hL := chain (B := w.heap.size) (a := w) (by go_grown) (Nat.le_refl _) hb; (first | replace h0 := keepAt3 hb h0 | replace h0 := keepAt3 hb (C3.alloc h0 _)); clear hb))
    go_ret2
    exact ⟨none, 0, by rw [HR.out.1, HR.out.2]; rfl, by rw [HR.out.1]; exact (own2Nil _ 0 0).reads, hL⟩
  · obtain ⟨⟨n1, n8⟩, -, -⟩ := chaB_out hb
    have HR : Hid (resPairsTogether_0 p xss yss = prTo (togB xss yss xss.length p.toNat) xss.length xss.length ∧ resPairsTogether_1 p xss yss = 0) := by
      unfold resPairsTogether_0 resPairsTogether_1; rw [hb]; exact ⟨rfl, rfl⟩
    have HRI := Lib.hid (fun w' (h : Below w.heap.size w w') => l07N_any v p xss yss w' (ha.keep h))
    have HTO := Lib.hid (fun w' (h : Below w.heap.size w w') => l07Together_any v p xss yss w' (ha.keep h) hb)
    have HTF : Hid (∀ k s : Nat, s ≤ k → togB xss yss xss.length p.toNat k s = false) := fun k s h => by
      unfold togB; rw [decide_eq_false (by omega)]; rfl
    have HTD : Hid (∀ k s : Nat, k < s → bP (Tog xss yss xss.length p.toNat k s) = togB xss yss xss.length p.toNat k s) := fun k s h => by
      unfold togB; rw [decide_eq_true h, Bool.true_and]
    obtain ⟨a, ca, b', cb, rfl, h1, _⟩ := ha
    have h0 := C3.here w (.int .i64 p) (.slice a xss.length ca) (.slice b' yss.length cb) 27
    generalize togB xss yss xss.length p.toNat = C at *
    generalize Tog xss yss xss.length p.toNat = TT at *
    have HL1 := Lib.hid (fun k => prTo_len C (M := xss.length) n8 k)
    have HS1 := Lib.hid (fun k => prTo_succ C xss.length k)
    clear hb h1
    generalize hn : xss.length = n at *
    generalize yss.length = m at *
    clear hn
    go_enter Try.func34, Try.ntmps34
    go_upto_region 3 with ((go_at_call 53; (with_reducible refine (HC.out _ (by go_grown)).mono ?_); rintro e w' ⟨rfl, hb⟩; have hL := chain (B := w.heap.size) (a := w) (by go_grown) (Nat.le_refl _) hb; (first | replace h0 := keepAt3 hb h0 | replace h0 := keepAt3 hb (C3.alloc h0 _)); clear hb))
    go_wp2_with fail
    refine (HTO.out _ hL).mono ?_
    rintro e wc ⟨tu, V, rfl, hM, hb⟩
    replace hL := chain (B := w.heap.size) (a := w) hL (Nat.le_refl _) hb
    replace h0 := keepAt3 hb h0
    have HLT := Lib.hid hM.lt
    obtain ⟨ta, tc, rfl⟩ := hM.form
    have hM := Lib.hid (hM.keep ((Below.refl _ _).alloc (Nat.le_refl _) (.cells #[] 36)))
    have hgz : Hid (w.heap.size + 1 ≤ wc.heap.size) := h0.lt
    have HOO := Lib.hid (own2Made wc wc.heap.size (Nat.le_refl _))
    obtain ⟨B0, hB0⟩ : ∃ B0, w'.heap.size = B0 := ⟨_, rfl⟩
    rw [hB0] at hM
    clear hb hB0
    go_wp2_with fail
    obtain ⟨G, hG⟩ : ∃ G, wc.heap.size = G := ⟨_, rfl⟩
    have HG := Lib.hid hG
    have hL' : Below w.heap.size w (wc.alloc (.cells #[] 36)) := hL.alloc (by have := hgz.out; omega) _
    have h0' := h0.alloc (.cells #[] 36)
    rw [hG] at HOO hgz HLT
    clear hL h0
    have hL := hL'
    have h0 := h0'
    clear hL' h0'
    rw [hG]
    clear hG
    go_loopw [5, 6] (fun u c wr => ∃ k : Nat, k ≤ n ∧ c = .int .i64 (k : Int) ∧ Below w.heap.size w wr ∧ C3 wr w.heap.size (.int .i64 p) (.slice a n ca) (.slice b' m cb) ∧ G ≤ wr.heap.size ∧ Hid (MatB wr B0 (.slice ta n tc) n n V (fun a b => bP (TT a b))) ∧ Hid (Own2 wr G wr.heap.size u (prTo C n k))) (fun _ c _ => n - (intOf c).toNat)
    case atStart => exact ⟨0, Nat.zero_le _, rfl, hL, h0, by have := HG.out; simp; omega, hM, HOO⟩
    case round =>
      clear hL h0 hM HOO
      obtain ⟨k, hk, rfl, hL, h0, hGs, hM, hO⟩ := hrel
      by_cases hkl : k < n
      · have hk1 : (k : Int) < (n : Int) := by omega
        have hk0 : (0 : Int) ≤ (k : Int) := by omega
        have HTk := HL1.out k
        have HPN : Hid (prRow C k (k + 1) = []) := prRow_none fun s hs => HTF.out k s (by omega)
        have HDk := Lib.hid (HTD.out k)
        go_wp2_with fail
        refine (HRI.out _ hL).mono ?_
        rintro e w2 ⟨rfl, hb⟩
        replace hL := chain (B := w.heap.size) (a := w) hL (Nat.le_refl _) hb
        replace h0 := keepAt3 hb h0
        replace hM := Lib.hid (hM.out.keep hb)
        replace hO := Lib.hid (hO.out.later hb)
        replace hGs := Nat.le_trans hGs hb.size
        clear hb
        go_wp2_with fail
        go_loopw [5, 7] (fun u c wy => ∃ j : Nat, k + 1 ≤ j ∧ j ≤ n ∧ c = .int .i64 (j : Int) ∧ Below w.heap.size w wy ∧ C3 wy w.heap.size (.int .i64 p) (.slice a n ca) (.slice b' m cb) ∧ G ≤ wy.heap.size ∧ Hid (MatB wy B0 (.slice ta n tc) n n V (fun a b => bP (TT a b))) ∧ Hid (Own2 wy G wy.heap.size u (prTo C n k ++ prRow C k j))) (fun _ c _ => n - (intOf c).toNat)
        case atStart => exact ⟨k + 1, Nat.le_refl _, by omega, by go_num, hL, h0, hGs, hM, by rw [HPN.out, List.append_nil]; exact hO⟩
        case round =>
          clear hL h0 hO hM hGs
          obtain ⟨j, hj0', hj, rfl, hL, h0, hGs, hM, hO⟩ := hrel
          by_cases hjl : j < n
          · have hj1 : (j : Int) < (n : Int) := by omega
            have hj0 : (0 : Int) ≤ (j : Int) := by omega
            have Hl : (prTo C n k ++ prRow C k j).length ≤ 400 := by rw [List.length_append]; have := prRow_len C k j; omega
            have hbt := HDk.out j (by omega)
            cases hq : C k j
            · have HN : Hid (prTo C n k ++ prRow C k (j + 1) = prTo C n k ++ prRow C k j) := by rw [Hid, prRow_miss hq]
              rw [hq] at hbt
              have HBT := Lib.hid hbt
              clear hq hbt
              generalize prTo C n k ++ prRow C k j = L at *
              go_wp2_with fail
              refine (HRI.out _ hL).mono ?_
              rintro e w2 ⟨rfl, hb⟩
              replace hL := chain (B := w.heap.size) (a := w) hL (Nat.le_refl _) hb
              replace h0 := keepAt3 hb h0
              replace hM := Lib.hid (hM.out.keep hb)
              replace hO := Lib.hid (hO.out.later hb)
              replace hGs := Nat.le_trans hGs hb.size
              clear hb
              obtain ⟨gb, gc, eO, hVc, hgw, _⟩ := hM.out.cell hkl
              obtain ⟨vb, vc, hVr, hkj, _, _, _⟩ := (hM.out.2 k hkl).1.cell hjl
              simp only [Value.slice.injEq, true_and] at eO
              obtain ⟨rfl, rfl⟩ := eO
              rw [hVr] at hVc
              dsimp only at hkj
              rw [HBT.out] at hkj
              clear hVr
              go_wp2_with fail
              exact ⟨⟨j + 1, by omega, by omega, by go_num, hL, h0, hGs, hM, by rw [HN.out]; exact hO⟩, by simp [intOf]; omega⟩
            · have HN : Hid (prTo C n k ++ prRow C k (j + 1) = (prTo C n k ++ prRow C k j) ++ [[(k : Int), (j : Int)]]) := by rw [Hid, prRow_hit hq, List.append_assoc]
              rw [hq] at hbt
              have HBT := Lib.hid hbt
              clear hq hbt
              generalize prTo C n k ++ prRow C k j = L at *
              go_wp2_with fail
              refine (HRI.out _ hL).mono ?_
              rintro e w2 ⟨rfl, hb⟩
              replace hL := chain (B := w.heap.size) (a := w) hL (Nat.le_refl _) hb
              replace h0 := keepAt3 hb h0
              replace hM := Lib.hid (hM.out.keep hb)
              replace hO := Lib.hid (hO.out.later hb)
              replace hGs := Nat.le_trans hGs hb.size
              clear hb
              obtain ⟨gb, gc, eO, hVc, hgw, _⟩ := hM.out.cell hkl
              obtain ⟨vb, vc, hVr, hkj, _, _, _⟩ := (hM.out.2 k hkl).1.cell hjl
              simp only [Value.slice.injEq, true_and] at eO
              obtain ⟨rfl, rfl⟩ := eO
              rw [hVr] at hVc
              dsimp only at hkj
              rw [HBT.out] at hkj
              clear hVr
              have hkb' := h0.lt
              have hfrom := Lib.hid hO.out.from
              have HRows := Lib.hid (fun o => hO.out.asRows ((Below.refl _ _).alloc (Nat.le_refl _) (.cells #[.int .i64 (k : Int), .int .i64 (j : Int)] 2)) o)
              have HTwo := Lib.hid (ownsTwo w2 (k : Int) (j : Int) w2.heap.size (Nat.le_refl _))
              go_wp2_with (at_builtin; refine wpList_append_own_at _ rfl _ _ 22 rfl G 36 i0 (.slice none 0 0) 1 24 Try.underlying22 hi0 hz0 hz1 hz2 rfl (by decide) _ L.length ((List.range L.length).map (Classical.choose hO.out)) rfl (HRows.out _) ⟨w2.heap.size + 1, 0, none⟩ 1 1 [.slice (some ⟨w2.heap.size, 0, none⟩) 2 2] rfl rfl (by have h := cell_one_new (w2.alloc (.cells #[.int .i64 (k : Int), .int .i64 (j : Int)] 2)) (.slice (some ⟨w2.heap.size, 0, none⟩) 2 2) 36; rw [World.size_alloc] at h; exact h) (by simp [Value.oneCell']) (by unfold maxLen; omega) (by omega) (by simp; omega) ?_; intro v' w3 hown' hgrow hnil hat)
              have HO3 := Lib.hid (Own2.more _ hO.out (by omega) ((Below.refl _ _).alloc (Nat.le_refl _) _) HTwo.out hown' hgrow hat)
              have HM3 := Lib.hid ((hM.out.keep ((Below.refl _ _).alloc (Nat.le_refl _) (.cells #[.int .i64 (k : Int), .int .i64 (j : Int)] 2))).grown hgrow hfrom.out (fun b e => (HLT.out.1 b e).1) (fun i hi b e => (HLT.out.2 i hi b e).1))
              exact ⟨⟨j + 1, by omega, by omega, by go_num, ((hL.alloc (by omega) _).alloc (by simp; omega) _).grown hgrow (by simp; omega) (fun q e => by have := hfrom.out q e; have := hgz.out; omega), ((h0.alloc _).alloc _).grown hgrow (fun e => by have := hfrom.out _ e; have := hgz.out; omega), by have h1 := hgrow.size; simp only [World.size_alloc] at h1; omega, HM3, by rw [HN.out]; exact HO3⟩, by simp [intOf]; omega⟩
          · have e : j = n := by omega
            have hjn : ¬ (j : Int) < (n : Int) := by omega
            rw [e, ← HS1.out] at hO
            clear e
            go_wp2_with fail
            refine (HRI.out _ hL).mono ?_
            rintro e w2 ⟨rfl, hb⟩
            replace hL := chain (B := w.heap.size) (a := w) hL (Nat.le_refl _) hb
            replace h0 := keepAt3 hb h0
            replace hM := Lib.hid (hM.out.keep hb)
            replace hO := Lib.hid (hO.out.later hb)
            replace hGs := Nat.le_trans hGs hb.size
            clear hb
            go_wp2_with fail
            exact ⟨⟨k + 1, by omega, by go_num, hL, h0, hGs, hM, hO⟩, by simp [intOf]; omega⟩
      · have e : k = n := by omega
        have hkn : ¬ (k : Int) < (n : Int) := by omega
        rw [e, ← HR.out.1] at hO
        clear e
        obtain ⟨sa, sc, rfl, _⟩ := hO.out.reads
        go_wp2_with fail
        refine (HRI.out _ hL).mono ?_
        rintro e w2 ⟨rfl, hb⟩
        replace hL := chain (B := w.heap.size) (a := w) hL (Nat.le_refl _) hb
        replace h0 := keepAt3 hb h0
        replace hM := Lib.hid (hM.out.keep hb)
        replace hO := Lib.hid (hO.out.later hb)
        replace hGs := Nat.le_trans hGs hb.size
        clear hb
        go_wp2_with fail
        go_ret2
        exact ⟨sa, sc, by rw [HR.out.2]; rfl, hO.out.reads, hL⟩

theorem iPairsTogether_any (v : Value) (p : Int) (xss yss : List (List Int)) (w : World) (ha : ReadsH w v p xss yss) :
    Calls Try.prog 35 #[v] w fun e w' => ∃ u, e = .returned (.tuple #[u, .int .i64 (resPairsTogether_1 p xss yss)]) ∧ Own2 w' w.heap.size w'.heap.size u (resPairsTogether_0 p xss yss) ∧ Below w.heap.size w w' :=
  (iPairsTogether_g v p xss yss w ha).mono fun e w' ⟨sa, sc, h⟩ => ⟨_, h⟩
theorem sPairsTogether_any (v : Value) (p : Int) (xss yss : List (List Int)) (w : World) (ha : ReadsH w v p xss yss) :
    Calls Try.prog 34 #[v] w fun e w' => ∃ u, e = .returned (.tuple #[u, .int .i64 (resPairsTogether_1 p xss yss)]) ∧ Reads2 w' u (resPairsTogether_0 p xss yss) ∧ Below w.heap.size w w' :=
  (sPairsTogether_g v p xss yss w ha).mono fun e w' ⟨sa, sc, h⟩ => ⟨_, h⟩

end Go.Proofs.Ytnlcnbkookmfaaa
