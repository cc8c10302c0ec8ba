/- The best test: the model's. -/
import Derived.Test.YtkdidplpnhokiaaBsQ
import Derived.Test.YtkdidplpnhokiaaFaT
namespace Go.Proofs.Ytkdidplpnhokiaa
open Go.RowKit
set_option linter.unusedVariables false

theorem l01Rows_R (n : Nat) (h1 : 1 ≤ n) (h5 : n ≤ 5) (w : World) :
    Calls Try.prog 83 #[.int .i64 (n : Int)] w fun e w' => e = .returned (.int .i64 ((2 ^ n : Nat) : Int)) ∧ w = w' := by
  have := l01Rows_z (n : Int) w (by omega) (by omega)
  rwa [show rcZ (n : Int) = ((2 ^ n : Nat) : Int) by unfold rcZ; rw [Int.toNat_natCast]] at this

set_option maxRecDepth 100000 in
set_option maxHeartbeats 4000000 in
theorem sBestTest_any (v : Value) (p : Int) (xs : List Int) (yss : List (List Int)) (v2 : Value) (ss : List (List Int)) (w : World) (ha : ReadsW w v p xs yss) (hs : Reads2 w v2 ss) :
    Calls Try.prog 48 #[v, v2] w fun e w' => e = .returned (.tuple #[.int .i64 (resBestTest_0 p xs yss ss), .int .i64 (resBestTest_1 p xs yss ss)]) ∧ Below w.heap.size w w' := by
  unfold resBestTest_0 resBestTest_1
  obtain ⟨c, hc⟩ : ∃ c, sgC p xs yss ss = c := ⟨_, rfl⟩
  have HP := Lib.hid (fun w' (h : Below w.heap.size w w') => l10Sights_any v v2 p xs yss ss w' (ha.keep h) (hs.keep h) hc)
  have ha' := ha
  obtain ⟨a, ca, b', cb, rfl, _, _⟩ := ha
  have h0 := C3.here w (.int .i64 p) (.slice a xs.length ca) (.slice b' yss.length cb) 28
  rw [hc]
  by_cases h : c = 0
  · subst h
    obtain ⟨hw', hok⟩ := sgC_zero hc
    have hw := hw'.weak
    obtain ⟨h1, h5⟩ := hw.1.1
    have HA := Lib.hid (fun w' (h : Below w.heap.size w w') => l10Agree_any _ v2 p xs yss ss w' (ha'.keep h) (hs.keep h) hw hok)
    have HRW := Lib.hid (fun w => l01Rows_R xs.length h1 h5 w)
    have HWO : Hid (∀ k, k < yss.length → ∀ w', Below w.heap.size w w' → Calls Try.prog 91 #[.agg #[.int .i64 p, .slice a xs.length ca, .slice b' yss.length cb], .int .i64 (k : Int)] w' fun e w'' => ∃ u, e = .returned u ∧ ReadsW w'' u p xs (yss.eraseIdx k) ∧ Below w'.heap.size w' w'') := fun k hk w' h => by
      refine (l10Without_any _ p xs yss k w' (ha'.keep h) hw hk).mono ?_
      rintro e w'' ⟨u, rfl, hf, hb⟩
      exact ⟨u, rfl, hf.reads, hb⟩
    have hp32 : Hid (2 ^ xs.length ≤ 32) := pow_le32 h5
    have HLI : Hid (∀ k (r : Nat) (bl : Bool), k < yss.length → r < 2 ^ xs.length → litB xs (yss.eraseIdx k) (r : Int) = bl → ∀ w' u, ReadsW w' u p xs (yss.eraseIdx k) → Calls Try.prog 73 #[u, .int .i64 (r : Int)] w' fun e w'' => e = .returned (.bool bl) ∧ Below w'.heap.size w' w'') := fun k r bl hk hr hbl w' u hu =>
      l10Lit_any u p xs _ (r : Int) w' hu (hw.erase hk) (by omega) (by have := hp32.out; omega) hbl
    have HIN : Hid (∀ q, q < nF xs yss ss → ∃ i : Nat, (pickL (agI xs yss ss) yss.length).getD q 0 = (i : Int) ∧ i < yss.length ∧ ∀ r : Nat, r < 2 ^ xs.length → digZ (tvF xs yss ss q) (r : Int) = if litB xs (yss.eraseIdx i) (r : Int) = true then 1 else 0) := fun q hq => by
      obtain ⟨i, e, hm, _⟩ := pick_in hq
      exact ⟨i, e, hm, fun r hr => tv_step hr e hm⟩
    have HNF : Hid ((pickL (agI xs yss ss) yss.length).length = nF xs yss ss) := rfl
    have HL16 : Hid (nF xs yss ss ≤ 16) := by have := pick_len (agI xs yss ss) yss.length; have := hw.2.2.1; unfold Hid nF; omega
    have HCB := Lib.hid (fun (r : Nat) k => cntT_bd (tvF xs yss ss) (r : Int) k)
    have HDA : Hid (∀ r : Nat, max (2 * cntT (tvF xs yss ss) (r : Int) (nF xs yss ss) - (nF xs yss ss : Int)) (-(2 * cntT (tvF xs yss ss) (r : Int) (nF xs yss ss) - (nF xs yss ss : Int))) = bestD xs yss ss r) := fun r => dif_abs _ _ _
    have hd0 : ∀ r, 0 ≤ bestD xs yss ss r := fun r => (difT_bd _ _ _).1
    have hd1 : ∀ r, bestD xs yss ss r ≤ 16 := fun r => by have := (difT_bd (tvF xs yss ss) (nF xs yss ss) (r : Int)).2; have := HL16.out; unfold bestD; omega
    have HBB := Lib.hid (bm_bd hd0 hd1 (by omega))
    have HST : Hid (∀ k, bm (bestD xs yss ss) (k + 1) = if (bm (bestD xs yss ss) k).2 < 0 ∨ bestD xs yss ss k < (bm (bestD xs yss ss) k).2 then (k, bestD xs yss ss k) else bm (bestD xs yss ss) k) := fun k => rfl
    have HD0 := Lib.hid hd0
    have HD1 := Lib.hid hd1
    rw [if_pos rfl]
    clear hc ha' hw hw' hok h1 h5 hs hd0 hd1
    generalize bestD xs yss ss = d at *
    generalize tvF xs yss ss = tv at *
    generalize pickL (agI xs yss ss) yss.length = FL at *
    generalize nF xs yss ss = l at *
    generalize 2 ^ xs.length = R at *
    generalize hnn' : xs.length = n at *
    clear hnn'
    generalize hmm' : yss.length = m at *
    clear hmm'
    go_enter Try.func48, Try.ntmps48
    go_wp2_with ((go_at_call 94; (with_reducible refine (HP.out _ (by go_grown)).mono ?_); rintro e w' ⟨rfl, hb⟩; have hL := chain (B := w.heap.size) (a := w) (by go_grown) (Nat.le_refl _) hb; (first | replace h0 := keepAt3 hb h0 | replace h0 := keepAt3 hb (C3.alloc h0 _)); clear hb))
    refine (HA.out _ hL).mono ?_
    rintro e w4 ⟨u, rfl, ho, hb⟩
    have hL4 := chain (B := w.heap.size) (a := w) hL (Nat.le_refl _) hb
    have h04 := keepAt3 hb h0
    have hr := ho.reads
    obtain ⟨af, cf, rfl, hmf, _⟩ := id hr
    unfold maxLen at hmf
    have HFC : Hid (∀ q, q < FL.length → ∃ b off, af = some ⟨b, off, none⟩ ∧ w4.cell? ⟨b, off + q, none⟩ = some (.int .i64 (FL.getD q 0))) := fun q hq => hr.cellW hq
    rw [HNF.out] at HFC ⊢
    clear ho hb hL h0 hr
    obtain ⟨wf, hwf⟩ : ∃ wf, wf = w4 := ⟨_, rfl⟩
    rw [← hwf] at HFC
    have hB4 : Below wf.heap.size wf w4 := by rw [hwf]; exact Below.refl _ _
    have hsf : w.heap.size ≤ wf.heap.size := by rw [hwf]; exact hL4.size
    clear hwf
    go_wp2_with fail
    go_loopw [8, 9, 10] (fun u8 u9 c wr => ∃ k : Nat, k ≤ R ∧ c = .int .i64 (k : Int) ∧ u8 = .int .i64 ((bm d k).1 : Int) ∧ u9 = .int .i64 (bm d k).2 ∧ Below w.heap.size w wr ∧ Below wf.heap.size wf wr ∧ C3 wr w.heap.size (.int .i64 p) (.slice a n ca) (.slice b' m cb)) (fun _ _ c _ => R - (intOf c).toNat)
    case atStart => exact ⟨0, Nat.zero_le _, rfl, rfl, rfl, hL4, hB4, h04⟩
    case round =>
      clear hL4 hB4 h04
      obtain ⟨k, hk, rfl, rfl, rfl, hL, hB, h0⟩ := hrel
      by_cases hlt : k < R
      · have hi1 : (k : Int) < (R : Int) := by omega
        have hR32 := hp32.out
        obtain ⟨wo, hwo⟩ : ∃ wo : World, wo = wr := ⟨_, rfl⟩
        have HLo : Hid (Below w.heap.size w wo) := by rw [hwo]; exact hL
        have HBo : Hid (Below wf.heap.size wf wo) := by rw [hwo]; exact hB
        have Hho : Hid (C3 wo w.heap.size (.int .i64 p) (.slice a n ca) (.slice b' m cb)) := by rw [hwo]; exact h0
        subst hwo
        clear hL hB h0
        have h0 := Hho.out
        go_wp2_with ((go_at_call 83; (with_reducible refine (HRW.out _).mono ?_); rintro e w' ⟨rfl, rfl⟩))
        clear h0
        go_loopw [11, 12] (fun u c wr => ∃ q : Nat, q ≤ l ∧ c = .int .i64 (q : Int) ∧ u = .int .i64 (2 * cntT tv (k : Int) q - (q : Int)) ∧ Below w.heap.size w wr ∧ Below wf.heap.size wf wr ∧ C3 wr w.heap.size (.int .i64 p) (.slice a n ca) (.slice b' m cb)) (fun _ c _ => l - (intOf c).toNat)
        case atStart => exact ⟨0, Nat.zero_le _, rfl, rfl, HLo.out, HBo.out, Hho.out⟩
        case round =>
          obtain ⟨q, hq, rfl, rfl, hL, hB, h0⟩ := hrel
          by_cases hql : q < l
          · have hj1 : (q : Int) < (l : Int) := by omega
            have hj0 : (0 : Int) ≤ (q : Int) := by omega
            have hl16 := HL16.out
            obtain ⟨i, hfi, him, hdg⟩ := HIN.out q hql
            obtain ⟨b, off, rfl, hcl0⟩ := HFC.out q hql
            rw [hfi] at hcl0
            have hcl := cell_later hB hcl0
            have hdg2 := hdg k hlt
            have hcb := HCB.out k q
            have HS : Hid (cntT tv (k : Int) (q + 1) = cntT tv (k : Int) q + digZ (tv q) (k : Int)) := rfl
            have HWK := Lib.hid (HWO.out i him)
            obtain ⟨bl, hbl⟩ : ∃ bl, litB xs (yss.eraseIdx i) (k : Int) = bl := ⟨_, rfl⟩
            have HLK := Lib.hid (HLI.out i k bl him hlt hbl)
            rw [hbl] at hdg2
            clear hfi hcl0 hdg hbl him
            cases bl
            · have HN : Hid (2 * cntT tv (k : Int) (q + 1) - ((q + 1 : Nat) : Int) = 2 * cntT tv (k : Int) q - (q : Int) - 1) := by
                unfold Hid; rw [HS.out, hdg2]; simp; omega
              generalize cntT tv (k : Int) q = ck at *
              have hw1 : IntKind.i64.wrap (2 * ck - (q : Int) - 1) = 2 * ck - (q : Int) - 1 := wrap_in (by omega) (by omega)
              clear hdg2
              go_wp2_with fail
              go_region_with (first | (go_at_call 91; (with_reducible refine (HWK.out _ (by first | exact hL | go_grown)).mono ?_); rintro e w5 ⟨u2, rfl, hru, hb⟩; have HRU := Lib.hid hru; replace hB := chain (B := wf.heap.size) (a := wf) (by first | exact hB | go_grown) (Nat.le_refl _) (chain (B := wr.heap.size) (a := wr) (by go_grown) (Nat.le_refl _) hb); replace hL := chain (B := w.heap.size) (a := w) (by first | exact hL | go_grown) (Nat.le_refl _) hb; replace h0 := keepAt3 hb h0; replace hcl := cell_later hb hcl; clear hb hru) | (go_at_call 73; (with_reducible refine (HLK.out _ _ (by first | exact HRU.out | exact HRU.out.keep (by go_grown))).mono ?_); rintro e w6 ⟨rfl, hb⟩; replace hB := hB.trans (hb.mono (by have := hB.size; first | exact this | simpa using this)); replace hL := chain (B := w.heap.size) (a := w) (by first | exact hL | go_grown) (Nat.le_refl _) hb; replace h0 := keepAt3 hb h0; replace hcl := cell_later hb hcl; clear hb))
              all_goals (go_step; go_step; go_simp)
              all_goals go_wp2_with fail
              all_goals exact ⟨⟨q + 1, by omega, by go_num, by rw [HN.out], by first | exact hL | go_grown, hB, h0⟩, by simp [intOf]; omega⟩
            · have HN : Hid (2 * cntT tv (k : Int) (q + 1) - ((q + 1 : Nat) : Int) = 2 * cntT tv (k : Int) q - (q : Int) + 1) := by
                unfold Hid; rw [HS.out, hdg2]; simp; omega
              generalize cntT tv (k : Int) q = ck at *
              have hw1 : IntKind.i64.wrap (2 * ck - (q : Int) + 1) = 2 * ck - (q : Int) + 1 := wrap_in (by omega) (by omega)
              clear hdg2
              go_wp2_with fail
              go_region_with (first | (go_at_call 91; (with_reducible refine (HWK.out _ (by first | exact hL | go_grown)).mono ?_); rintro e w5 ⟨u2, rfl, hru, hb⟩; have HRU := Lib.hid hru; replace hB := chain (B := wf.heap.size) (a := wf) (by first | exact hB | go_grown) (Nat.le_refl _) (chain (B := wr.heap.size) (a := wr) (by go_grown) (Nat.le_refl _) hb); replace hL := chain (B := w.heap.size) (a := w) (by first | exact hL | go_grown) (Nat.le_refl _) hb; replace h0 := keepAt3 hb h0; replace hcl := cell_later hb hcl; clear hb hru) | (go_at_call 73; (with_reducible refine (HLK.out _ _ (by first | exact HRU.out | exact HRU.out.keep (by go_grown))).mono ?_); rintro e w6 ⟨rfl, hb⟩; replace hB := hB.trans (hb.mono (by have := hB.size; first | exact this | simpa using this)); replace hL := chain (B := w.heap.size) (a := w) (by first | exact hL | go_grown) (Nat.le_refl _) hb; replace h0 := keepAt3 hb h0; replace hcl := cell_later hb hcl; clear hb))
              all_goals (go_step; go_step; go_simp)
              all_goals go_wp2_with fail
              all_goals exact ⟨⟨q + 1, by omega, by go_num, by rw [HN.out], by first | exact hL | go_grown, hB, h0⟩, by simp [intOf]; omega⟩
          · have e : q = l := by omega
            subst e
            have hge : ¬ (q : Int) < (q : Int) := by omega
            have hda := HDA.out k
            have hcb := HCB.out k q
            have hl16 := HL16.out
            have hst := HST.out k
            have hbb := HBB.out k
            have hd0 := HD0.out k
            have hd1 := HD1.out k
            obtain ⟨ap, hap⟩ : ∃ ap, 2 * cntT tv (k : Int) q - (q : Int) = ap := ⟨_, rfl⟩
            rw [hap] at hda ⊢
            have hapb : -16 ≤ ap ∧ ap ≤ 16 := by omega
            have hw1 : IntKind.i64.wrap (-ap) = -ap := wrap_in (by omega) (by omega)
            clear hap hcb
            generalize d k = dk at *
            obtain ⟨⟨bi, bv⟩, hbm⟩ : ∃ b, bm d k = b := ⟨_, rfl⟩
            rw [hbm] at hst hbb ⊢
            simp only at hst hbb ⊢
            by_cases hbv : bv < 0
            · rw [if_pos (.inl hbv)] at hst
              rcases Int.lt_or_le ap 0 with hs | hs
              · have e : dk = -ap := by omega
                subst e
                go_wp2_with fail
                all_goals first | exact ⟨⟨k + 1, by omega, by go_num, by rw [hst], by rw [hst], hL, hB, h0⟩, by simp [intOf]; omega⟩ | exact ⟨⟨k + 1, by omega, by go_num, by rw [hst], congrArg (Value.int .i64) (by rw [hst]; simp only; omega), hL, hB, h0⟩, by simp [intOf]; omega⟩ | (exfalso; omega)
              · have e : dk = ap := by omega
                subst e
                go_wp2_with fail
                all_goals first | exact ⟨⟨k + 1, by omega, by go_num, by rw [hst], by rw [hst], hL, hB, h0⟩, by simp [intOf]; omega⟩ | exact ⟨⟨k + 1, by omega, by go_num, by rw [hst], congrArg (Value.int .i64) (by rw [hst]; simp only; omega), hL, hB, h0⟩, by simp [intOf]; omega⟩ | (exfalso; omega)
            · by_cases hlt2 : dk < bv
              · rw [if_pos (.inr hlt2)] at hst
                rcases Int.lt_or_le ap 0 with hs | hs
                · have e : dk = -ap := by omega
                  subst e
                  go_wp2_with fail
                  all_goals first | exact ⟨⟨k + 1, by omega, by go_num, by rw [hst], by rw [hst], hL, hB, h0⟩, by simp [intOf]; omega⟩ | exact ⟨⟨k + 1, by omega, by go_num, by rw [hst], congrArg (Value.int .i64) (by rw [hst]; simp only; omega), hL, hB, h0⟩, by simp [intOf]; omega⟩ | (exfalso; omega)
                · have e : dk = ap := by omega
                  subst e
                  go_wp2_with fail
                  all_goals first | exact ⟨⟨k + 1, by omega, by go_num, by rw [hst], by rw [hst], hL, hB, h0⟩, by simp [intOf]; omega⟩ | exact ⟨⟨k + 1, by omega, by go_num, by rw [hst], congrArg (Value.int .i64) (by rw [hst]; simp only; omega), hL, hB, h0⟩, by simp [intOf]; omega⟩ | (exfalso; omega)
              · rw [if_neg (by omega)] at hst
                rcases Int.lt_or_le ap 0 with hs | hs
                · have e : dk = -ap := by omega
                  subst e
                  go_wp2_with fail
                  all_goals first | exact ⟨⟨k + 1, by omega, by go_num, by rw [hst], by rw [hst], hL, hB, h0⟩, by simp [intOf]; omega⟩ | exact ⟨⟨k + 1, by omega, by go_num, by rw [hst], congrArg (Value.int .i64) (by rw [hst]; simp only; omega), hL, hB, h0⟩, by simp [intOf]; omega⟩ | (exfalso; omega)
                · have e : dk = ap := by omega
                  subst e
                  go_wp2_with fail
                  all_goals first | exact ⟨⟨k + 1, by omega, by go_num, by rw [hst], by rw [hst], hL, hB, h0⟩, by simp [intOf]; omega⟩ | exact ⟨⟨k + 1, by omega, by go_num, by rw [hst], congrArg (Value.int .i64) (by rw [hst]; simp only; omega), hL, hB, h0⟩, by simp [intOf]; omega⟩ | (exfalso; omega)
      · have e : k = R := by omega
        subst e
        have hge : ¬ (k : Int) < (k : Int) := by omega
        go_wp2_with ((go_at_call 83; (with_reducible refine (HRW.out _).mono ?_); rintro e w' ⟨rfl, rfl⟩))
        go_ret2
        exact ⟨rfl, hL⟩
  · rw [if_neg h]
    have hne : (c != 0) = true := by simpa using h
    clear hc ha' h hs
    generalize xs.length = n at *
    generalize yss.length = m at *
    go_enter Try.func48, Try.ntmps48
    go_wp2_with ((go_at_call 94; (with_reducible refine (HP.out _ (by go_grown)).mono ?_); rintro e w' ⟨rfl, hb⟩; have hL := chain (B := w.heap.size) (a := w) (by go_grown) (Nat.le_refl _) hb; (first | replace h0 := keepAt3 hb h0 | replace h0 := keepAt3 hb (C3.alloc h0 _)); clear hb))
    go_ret2
    exact ⟨rfl, hL⟩

end Go.Proofs.Ytkdidplpnhokiaa
