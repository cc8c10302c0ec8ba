/- RunOver: the program. -/
import Derived.Test.YtnlcnbkookmfaaaRoM
namespace Go.Proofs.Ytnlcnbkookmfaaa
open Go.RowKit
set_option linter.unusedVariables false

set_option maxRecDepth 100000 in
set_option maxHeartbeats 4000000 in
theorem iRunOver_any (v : Value) (p : Int) (xss yss : List (List Int)) (r : Int) (vs : Value) (cs : List Int) (w : World) (ha : ReadsH w v p xss yss) (hs : Reads w vs cs) :
    Calls Try.prog 33 #[v, .int .i64 r, vs] w fun e w' => ∃ u0 u1, e = .returned (.tuple #[u0, u1, .int .i64 (resRunOver_2 p xss yss r cs)]) ∧ TwoIn w' w.heap.size u0 u1 (resRunOver_0 p xss yss r cs) (resRunOver_1 p xss yss r cs) ∧ Below w.heap.size w w' := by
  obtain ⟨j0, hj0_, jz0, jz1, jz2⟩ := info_parts info64
  obtain ⟨b, hb⟩ : ∃ b, chaB p xss yss = b := ⟨_, rfl⟩
  have HC := Lib.hid (fun w' (h : Below w.heap.size w w') => isChart_any v p xss yss w' (ha.keep h) hb)
  have HRI := Lib.hid (fun w' (h : Below w.heap.size w w') => rowsIn_any v p xss yss w' (ha.keep h))
  have ha' := ha
  have hs' := hs
  obtain ⟨sa, sc, rfl, hsm, _⟩ := hs
  unfold maxLen at hsm
  cases b
  · have HR := Lib.hid (ro_plc (r := r) (cs := cs) (plcC_inv hb) (by decide))
    obtain ⟨a, ca, b', cb, rfl, _, _⟩ := ha
    have h0 := C3.here w (.int .i64 p) (.slice a xss.length ca) (.slice b' yss.length cb) 27
    clear hb ha' hs'
    generalize xss.length = n at *
    generalize yss.length = m at *
    generalize cs.length = l at *
    go_enter Try.func33, Try.ntmps33
    go_wp2_with ((go_at_call 18; (with_reducible refine (HC.out _ (by go_grown)).mono ?_); rintro e w' ⟨rfl, hb⟩; have hL := chain (B := w.heap.size) (a := w) (by go_grown) (Nat.le_refl _) hb; (first | replace h0 := keepAt3 hb h0 | replace h0 := keepAt3 hb (C3.alloc h0 _)); clear hb))
    go_ret3
    exact ⟨_, _, by rw [HR.out.2.2]; rfl, by rw [HR.out.1, HR.out.2.1]; exact TwoIn.nil _ hL.size, hL⟩
  · obtain ⟨br, hbr⟩ : ∃ b, bel r xss.length = b := ⟨_, rfl⟩
    have HB1 := Lib.hid (fun w => isBelowH r (xss.length : Int) w hbr)
    obtain ⟨⟨n1, n8⟩, ⟨p1, p4⟩, hyx⟩ := chaB_out hb
    cases br
    · have HR := Lib.hid (ro_plc (cs := cs) (plcC_row hb hbr) (by decide))
      obtain ⟨a, ca, b', cb, rfl, _, _⟩ := ha
      have h0 := C3.here w (.int .i64 p) (.slice a xss.length ca) (.slice b' yss.length cb) 27
      clear hb ha' hs' hbr hyx
      generalize xss.length = n at *
      generalize yss.length = m at *
      generalize cs.length = l at *
      go_enter Try.func33, Try.ntmps33
      go_wp2_with (first | (go_at_call 18; (with_reducible refine (HC.out _ (by go_grown)).mono ?_); rintro e w' ⟨rfl, hb⟩; have hL := chain (B := w.heap.size) (a := w) (by go_grown) (Nat.le_refl _) hb; (first | replace h0 := keepAt3 hb h0 | replace h0 := keepAt3 hb (C3.alloc h0 _)); clear hb) | (go_at_call 54; (with_reducible refine (HRI.out _ (by go_grown)).mono ?_); rintro e w' ⟨rfl, hb⟩; have hL := chain (B := w.heap.size) (a := w) (by go_grown) (Nat.le_refl _) hb; (first | replace h0 := keepAt3 hb h0 | replace h0 := keepAt3 hb (C3.alloc h0 _)); clear hb) | (go_at_call 60; (with_reducible refine (HB1.out _).mono ?_); rintro e w' ⟨rfl, rfl⟩))
      go_ret3
      exact ⟨_, _, by rw [HR.out.2.2]; rfl, by rw [HR.out.1, HR.out.2.1]; exact TwoIn.nil _ hL.size, hL⟩
    · by_cases hbig : cs.length ≤ 100
      · have HCF := Lib.hid (fun w' bn (hk : Below w.heap.size w w') (y z : Value) (h : C3 w' bn (.int .i64 p) y z) => containsFunc_any (.slice sa cs.length sc) cs 62 #[.pointer (some ⟨bn, 0, none⟩)] (fun x => !(bel x p)) w' (hs'.keep hk) (fun x wx hx => noColumn_any p x y z bn wx (h.keep hx)) (enters_of Try.func62 (by kernel_rfl) rfl) (noCol_contains cs p))
        have hb1 : ¬ (100 : Int) < (cs.length : Int) := by omega
        by_cases hcol : ∀ i, i < cs.length → bel (cs.getD i 0) p = true
        · rw [decide_eq_true hcol] at HCF
          have hpl : plcC p xss yss r cs = 0 := plcC_ok hb hbr hcol
          obtain ⟨R, rfl, hRn⟩ := belN hbr
          have HOK : Hid ((∀ i, i < cs.length → endB xss cs R i = true) → ResRo p xss yss (R : Int) cs (roR xss cs R cs.length) (roO xss yss cs R cs.length) 0) := fun h => ro_ok (r := (R : Int)) hpl hbig h
          have HNO : Hid (∀ i, i < cs.length → endB xss cs R i = false → ResRo p xss yss (R : Int) cs [] [] 4) := fun i hi h => ro_stop (r := (R : Int)) hpl hbig hi h
          have HRL := Lib.hid (fun k hk => rowAt_lt hb hcol (r := R) (by omega) k hk)
          have HCH := Lib.hid (fun w' (h : Below w.heap.size w w') (R C : Nat) (hR : R < xss.length) (hC : (C : Int) < p) => chainFrom_any v p xss yss R C w' (ha'.keep h) hb hR hC)
          have HEN : Hid (∀ k, endB xss cs R k = chB (fcol xss (colAt cs k)) (rowAt xss cs R k) xss.length) := fun k => rfl
          have HLA : Hid (∀ k, k < cs.length → endB xss cs R k = true → ∃ m, (chR (fcol xss (colAt cs k)) (rowAt xss cs R k) xss.length).length = m + 1 ∧ (chR (fcol xss (colAt cs k)) (rowAt xss cs R k) xss.length).getD m 0 = ((rowAt xss cs R (k + 1) : Nat) : Int)) := fun k hk h => by
            have h1 := of_decide_eq_true (hcol k hk)
            exact chR_lst (fol_col hb (by unfold colAt; omega)) (rowAt_lt hb hcol (by omega) k (by omega)) h
          have HCO : Hid (∀ k, k < cs.length → ∃ sb so, sa = some ⟨sb, so, none⟩ ∧ w.cell? ⟨sb, so + k, none⟩ = some (.int .i64 ((colAt cs k : Nat) : Int)) ∧ ((colAt cs k : Nat) : Int) < p) := fun k hk => by
            obtain ⟨sb, so, e, hx⟩ := hs'.cellR hk
            have h1 := of_decide_eq_true (hcol k hk)
            have e2 : ((colAt cs k : Nat) : Int) = cs.getD k 0 := by unfold colAt; omega
            exact ⟨sb, so, e, by rw [e2]; exact hx, by rw [e2]; omega⟩
          have HLN := Lib.hid (fun r (hr : r < xss.length) => (row_len hb hr).2)
          obtain ⟨a, ca, b', cb, rfl, _, h2⟩ := ha
          have HP : Hid (∀ r c : Nat, r < xss.length → (c : Int) < p → ∃ b off ub uo ul uc, b' = some ⟨b, off, none⟩ ∧ (r : Int) < (yss.length : Int) ∧ w.cell? ⟨b, off + r, none⟩ = some (.slice (some ⟨ub, uo, none⟩) ul uc) ∧ (c : Int) < (ul : Int) ∧ w.cell? ⟨ub, uo + c, none⟩ = some (.int .i64 (plZ yss r c))) := fun r c hr hc => by
            have e := HLN.out r hr
            have hy : r < yss.length := by omega
            obtain ⟨b, off, ub, uo, uc, h1', h2', h3'⟩ := h2.place hy (c := c) (by omega)
            exact ⟨b, off, ub, uo, _, uc, h1', by omega, h2', by omega, h3'⟩
          have h0 := C3.here w (.int .i64 p) (.slice a xss.length ca) (.slice b' yss.length cb) 27
          have HRN := Lib.hid hRn
          have HR0 : Hid ((R : Int) = ((rowAt xss cs R 0 : Nat) : Int)) := rfl
          have HZ1 : Hid (roR xss cs R 0 = []) := rfl
          have HZ2 : Hid (roO xss yss cs R 0 = []) := rfl
          have HSR := Lib.hid (fun k => roR_succ xss cs R k)
          have HSO := Lib.hid (fun k => roO_succ xss yss cs R k)
          have HLR := Lib.hid (fun k => roR_len xss cs R k)
          have HLO := Lib.hid (fun k => roO_len xss yss cs R k)
          clear hb ha' hs' hbr hyx hcol hpl h2 HLN hRn
          generalize hn : xss.length = n at *
          generalize yss.length = m at *
          generalize hl : cs.length = l at *
          clear hn hl
          simp only [Bool.not_true] at HCF
          go_enter Try.func33, Try.ntmps33
          go_wp2_with (first | (go_at_call 18; (with_reducible refine (HC.out _ (by go_grown)).mono ?_); rintro e w' ⟨rfl, hb⟩; have hL := chain (B := w.heap.size) (a := w) (by go_grown) (Nat.le_refl _) hb; (first | replace h0 := keepAt3 hb h0 | replace h0 := keepAt3 hb (C3.alloc h0 _)); clear hb) | (go_at_call 54; (with_reducible refine (HRI.out _ (by go_grown)).mono ?_); rintro e w' ⟨rfl, hb⟩; have hL := chain (B := w.heap.size) (a := w) (by go_grown) (Nat.le_refl _) hb; (first | replace h0 := keepAt3 hb h0 | replace h0 := keepAt3 hb (C3.alloc h0 _)); clear hb) | (go_at_call 60; (with_reducible refine (HB1.out _).mono ?_); rintro e w' ⟨rfl, rfl⟩) | (go_at_call 63; (with_reducible refine (HCF.out _ _ (by go_grown) _ _ h0).mono ?_); rintro e w' ⟨rfl, hb⟩; have hL := chain (B := w.heap.size) (a := w) (by go_grown) (Nat.le_refl _) hb; (first | replace h0 := keepAt3 hb h0 | replace h0 := keepAt3 hb (C3.alloc h0 _)); clear hb))
          have hkb := h0.lt
          go_loopw [1, 10, 11, 37] (fun rw_ u u2 c wr => ∃ k : Nat, k ≤ l ∧ c = .int .i64 (k : Int) ∧ rw_ = .int .i64 ((rowAt xss cs R k : Nat) : Int) ∧ Below w.heap.size w wr ∧ C3 wr w.heap.size (.int .i64 p) (.slice a n ca) (.slice b' m cb) ∧ Owns wr (w.heap.size + 1) u (roR xss cs R k) ∧ Owns wr (w.heap.size + 1) u2 (roO xss yss cs R k) ∧ Hid (apart u u2 ∧ ∀ i, i < k → endB xss cs R i = true)) (fun _ _ _ c _ => l - (intOf c).toNat)
          case atStart => exact ⟨0, Nat.zero_le _, rfl, by rw [← HR0.out], hL, h0, by rw [HZ1.out]; exact ownsNone _ _, by rw [HZ2.out]; exact ownsNone _ _, by unfold Hid; exact ⟨apartNil _, fun i hi => by omega⟩⟩
          case round =>
            clear hL h0 hkb HR0 HZ1 HZ2
            obtain ⟨k, hk, rfl, rfl, hL, h0, o1, o2, hap⟩ := hrel
            by_cases hlt : k < l
            · have hk1 : (k : Int) < (l : Int) := by omega
              have hk0 : (0 : Int) ≤ (k : Int) := by omega
              have hRk := HRL.out k hk
              have hRk1 := HRL.out (k + 1) hlt
              obtain ⟨sb, so, rfl, hx, hCp⟩ := HCO.out k hlt
              have hca := cell_later hL hx
              have HX := Lib.hid hx
              have HCk := Lib.hid (HCH.out wr hL _ _ hRk hCp)
              have HEk := HEN.out k
              have hen := HNO.out k hlt
              have HLk := Lib.hid (HLA.out k hlt)
              have HSRk := Lib.hid (HSR.out k)
              have HSOk := Lib.hid (HSO.out k)
              have hlr := HLR.out k
              have hlo := HLO.out k
              have HPk := Lib.hid (HP.out _ _ hRk1 hCp)
              have hC0 : (0 : Int) ≤ ((colAt cs k : Nat) : Int) := by omega
              have HK1 : Hid (endB xss cs R k = true → ∀ i, i < k + 1 → endB xss cs R i = true) := fun h i hi => by
                rcases Nat.lt_or_ge i k with h1 | h1
                · exact hap.out.2 i h1
                · have e : i = k := by omega
                  rw [e]; exact h
              have HAP := Lib.hid hap.out.1
              rw [← HEk] at HCk
              have O1 := Lib.hid o1
              have O2 := Lib.hid o2
              clear hx hap HEk o1 o2
              cases hE : endB xss cs R k
              · have HR := Lib.hid (hen hE)
                rw [hE] at HCk
                clear hen HLk HSRk HSOk HPk HK1 hE
                generalize colAt cs k = C at *
                generalize rowAt xss cs R k = X at *
                go_wp2_with fail
                refine (HCk.out).mono ?_
                rintro e w2 ⟨u, rfl, ou, hb⟩
                have hL2 := chain (B := w.heap.size) (a := w) hL (Nat.le_refl _) hb
                clear hb ou
                go_wp2_with fail
                go_ret3
                exact ⟨_, _, by rw [HR.out.2.2]; rfl, by rw [HR.out.1, HR.out.2.1]; exact TwoIn.nil _ hL2.size, hL2⟩
              · obtain ⟨q, hq1, hq2⟩ := HLk.out hE
                have HKK := Lib.hid (HK1.out hE)
                rw [hE] at HCk
                clear hen HLk HK1 hE
                generalize colAt cs k = C at *
                generalize hXX : rowAt xss cs R (k + 1) = Y at *
                generalize rowAt xss cs R k = X at *
                obtain ⟨LL, hLL⟩ : ∃ LL, chR (fcol xss C) X n = LL := ⟨_, rfl⟩
                rw [hLL] at hq1 hq2 HCk
                clear hLL
                go_wp2_with fail
                refine (HCk.out).mono ?_
                rintro e w2 ⟨u, rfl, ou, hb⟩
                have hL2 := chain (B := w.heap.size) (a := w) hL (Nat.le_refl _) hb
                have h02 := h0.keep hb
                have hz2 := h02.lt
                replace O1 := Lib.hid (O1.out.keep hb)
                replace O2 := Lib.hid (O2.out.keep hb)
                obtain ⟨ua, uc, rfl, hum, _⟩ := ou.reads
                obtain ⟨ub, uo, rfl, hu⟩ := ou.reads.cellR (k := q) (by omega)
                rw [hq2] at hu
                rw [hq1] at *
                unfold maxLen at hum
                clear hb ou hL h0 hca
                obtain ⟨ob, oo, vb, vo, vl, vc, rfl, hYm, hv1, hvl, hv2⟩ := HPk.out
                have HV1 := Lib.hid hv1
                have HV2 := Lib.hid hv2
                clear hv1 hv2 HPk
                have hqq : IntKind.i64.wrap (((q + 1 : Nat) : Int) - 1) = (q : Int) := by rw [IntWalk.i64_in _ (by omega)]; omega
                have hql : (q : Int) < ((q + 1 : Nat) : Int) := by omega
                generalize plZ yss Y C = Z at *
                generalize hg1 : roR xss cs R k = L1 at *
                generalize hg2 : roO xss yss cs R k = L2 at *
                clear hg1 hg2
                go_wp2_with (first | (at_builtin; refine wpList_append_own_at _ rfl _ _ 36 rfl (w.heap.size + 1) 2 j0 (.int .i64 0) 1 8 Try.underlying36 hj0_ jz0 jz1 jz2 rfl (by decide) _ L1.length (L1.map (Value.int .i64)) rfl (World.ownsRow.alloc O1.out _) ⟨w2.heap.size, 0, none⟩ 1 1 [.int .i64 (Y : Int)] rfl rfl (cell_one_new _ _ _) (by simp [Value.oneCell']) (by unfold maxLen; omega) (by omega) (by simp; omega) ?_; intro v1 w5 hown1 hgrow1 hnil1 hat1; obtain ⟨o2', hap'⟩ := apRow O2.out HAP.out hgrow1 hat1; have O2' := Lib.hid o2'; have HAP' := Lib.hid hap'; have h03 := (h02.alloc _).grown hgrow1 (fun e => by have := (World.ownsRow.lt O1.out _ e).1; omega); have hL3 := (hL2.alloc (by omega) _).grown hgrow1 (by simp; omega) (fun q e => by have := (World.ownsRow.lt O1.out _ e).1; omega); have hcv1 := cell_later hL3 HV1.out; have hcv2 := cell_later hL3 HV2.out; have hz3 := h03.lt; have O1' := Lib.hid (Owns.snoc hown1)) | (at_builtin; refine wpList_append_own_at _ rfl _ _ 36 rfl (w.heap.size + 1) 2 j0 (.int .i64 0) 1 8 Try.underlying36 hj0_ jz0 jz1 jz2 rfl (by decide) _ L2.length (L2.map (Value.int .i64)) rfl (World.ownsRow.alloc O2'.out _) ⟨w5.heap.size, 0, none⟩ 1 1 [.int .i64 Z] rfl rfl (cell_one_new _ _ _) (by simp [Value.oneCell']) (by unfold maxLen; omega) (by omega) (by simp; omega) ?_; intro v2 w6 hown2 hgrow2 hnil2 hat2; obtain ⟨o1', hap2⟩ := apRow O1'.out HAP'.out.symm hgrow2 hat2; have h04 := (h03.alloc _).grown hgrow2 (fun e => by have := (World.ownsRow.lt O2'.out _ e).1; omega); have hL4 := (hL3.alloc (by omega) _).grown hgrow2 (by simp; omega) (fun q e => by have := (World.ownsRow.lt O2'.out _ e).1; omega)))
                exact ⟨⟨k + 1, by omega, by go_num, by rw [hXX], hL4, h04, by rw [HSRk.out]; exact o1', by rw [HSOk.out]; exact Owns.snoc hown2, by unfold Hid; exact ⟨hap2.symm, HKK.out⟩⟩, by simp [intOf]; omega⟩
            · have e : k = l := by omega
              have hkn : ¬ (k : Int) < (l : Int) := by omega
              have HR := Lib.hid (HOK.out (by rw [← e]; exact hap.out.2))
              have HAP := Lib.hid hap.out.1
              rw [e] at o1 o2
              have O1 := Lib.hid o1
              have O2 := Lib.hid o2
              clear e o1 o2 hap
              go_wp2_with fail
              go_ret3
              exact ⟨_, _, by rw [HR.out.2.2]; rfl, by rw [HR.out.1, HR.out.2.1]; exact (TwoIn.of O1.out O2.out HAP.out (by omega)).mono (Nat.le_succ _), hL⟩
        · rw [decide_eq_false hcol] at HCF
          have HR : Hid (ResRo p xss yss r cs [] [] 2) := ro_plc (by unfold plcC; rw [if_pos hb, if_neg (fun h => hcol h.2)]) (by decide)
          obtain ⟨a, ca, b', cb, rfl, _, _⟩ := ha
          have h0 := C3.here w (.int .i64 p) (.slice a xss.length ca) (.slice b' yss.length cb) 27
          clear hb ha' hs' hbr hyx hcol hbig
          generalize xss.length = n at *
          generalize yss.length = m at *
          generalize cs.length = l at *
          go_enter Try.func33, Try.ntmps33
          go_wp2_with (first | (go_at_call 18; (with_reducible refine (HC.out _ (by go_grown)).mono ?_); rintro e w' ⟨rfl, hb⟩; have hL := chain (B := w.heap.size) (a := w) (by go_grown) (Nat.le_refl _) hb; (first | replace h0 := keepAt3 hb h0 | replace h0 := keepAt3 hb (C3.alloc h0 _)); clear hb) | (go_at_call 54; (with_reducible refine (HRI.out _ (by go_grown)).mono ?_); rintro e w' ⟨rfl, hb⟩; have hL := chain (B := w.heap.size) (a := w) (by go_grown) (Nat.le_refl _) hb; (first | replace h0 := keepAt3 hb h0 | replace h0 := keepAt3 hb (C3.alloc h0 _)); clear hb) | (go_at_call 60; (with_reducible refine (HB1.out _).mono ?_); rintro e w' ⟨rfl, rfl⟩) | (go_at_call 63; (with_reducible refine (HCF.out _ _ (by go_grown) _ _ h0).mono ?_); rintro e w' ⟨rfl, hb⟩; have hL := chain (B := w.heap.size) (a := w) (by go_grown) (Nat.le_refl _) hb; (first | replace h0 := keepAt3 hb h0 | replace h0 := keepAt3 hb (C3.alloc h0 _)); clear hb))
          go_ret3
          exact ⟨_, _, by rw [HR.out.2.2]; rfl, by rw [HR.out.1, HR.out.2.1]; exact TwoIn.nil _ hL.size, hL⟩
      · have HR : Hid (ResRo p xss yss r cs [] [] 2) := by
          by_cases hcol : ∀ i, i < cs.length → bel (cs.getD i 0) p = true
          · exact ro_long (plcC_ok hb hbr hcol) hbig
          · exact ro_plc (by unfold plcC; rw [if_pos hb, if_neg (fun h => hcol h.2)]) (by decide)
        have hb1 : (100 : Int) < (cs.length : Int) := by omega
        obtain ⟨a, ca, b', cb, rfl, _, _⟩ := ha
        have h0 := C3.here w (.int .i64 p) (.slice a xss.length ca) (.slice b' yss.length cb) 27
        clear hb ha' hs' hbr hyx hbig
        generalize xss.length = n at *
        generalize yss.length = m at *
        generalize cs.length = l at *
        go_enter Try.func33, Try.ntmps33
        go_wp2_with (first | (go_at_call 18; (with_reducible refine (HC.out _ (by go_grown)).mono ?_); rintro e w' ⟨rfl, hb⟩; have hL := chain (B := w.heap.size) (a := w) (by go_grown) (Nat.le_refl _) hb; (first | replace h0 := keepAt3 hb h0 | replace h0 := keepAt3 hb (C3.alloc h0 _)); clear hb) | (go_at_call 54; (with_reducible refine (HRI.out _ (by go_grown)).mono ?_); rintro e w' ⟨rfl, hb⟩; have hL := chain (B := w.heap.size) (a := w) (by go_grown) (Nat.le_refl _) hb; (first | replace h0 := keepAt3 hb h0 | replace h0 := keepAt3 hb (C3.alloc h0 _)); clear hb) | (go_at_call 60; (with_reducible refine (HB1.out _).mono ?_); rintro e w' ⟨rfl, rfl⟩))
        go_ret3
        exact ⟨_, _, by rw [HR.out.2.2]; rfl, by rw [HR.out.1, HR.out.2.1]; exact TwoIn.nil _ hL.size, hL⟩

end Go.Proofs.Ytnlcnbkookmfaaa
