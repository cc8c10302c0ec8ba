/- The flickers of a formula, in order: the model's. -/
import Derived.Test.YtohmhiodmaahfaaFlsM
import Derived.Test.YtohmhiodmaahfaaMoS
namespace Go.Proofs.Ytohmhiodmaahfaa
open Go.RowKit
set_option linter.unusedVariables false

theorem pow5N {i : Nat} (h : i < 5) : IntKind.i64.wrap (2 ^ i) = 2 ^ i ∧ wrap64 (2 ^ i) = 2 ^ i := by
  have key : ∀ k : Fin 5, IntKind.i64.wrap (2 ^ k.val) = 2 ^ k.val ∧ wrap64 (2 ^ k.val) = 2 ^ k.val := by decide +kernel
  exact key ⟨i, h⟩
theorem other_bits {r i : Nat} (hr : r < 32) (hi : i < 5) : bits .or .i64 (r : Int) (2 ^ i) = ((highN r i : Nat) : Int) := by
  have := (low_bits ⟨r, hr⟩ ⟨i, hi⟩).2
  simp only [Int.natCast_pow] at this
  exact this
theorem b2i_yes {b : Bool} (h : b = true) : b2i b = 1 := by rw [h]; rfl
theorem b2i_no {b : Bool} (h : b = false) : b2i b = 0 := by rw [h]; rfl

set_option maxRecDepth 100000 in
set_option maxHeartbeats 4000000 in
theorem l08Flickers_any {t : Fm} (n : Int) (w : World) (hw : wfF t) (hz : (txtF t).length ≤ 1048576) (n1 : 1 ≤ n) (n5 : n ≤ 5) :
    Calls Try.prog 32 #[.string (txtS t), .int .i64 n] w fun e w' => ∃ sa sc, e = .returned (.slice sa (flTo t n.toNat (2 ^ n.toNat)).length sc) ∧ Own2 w' w.heap.size w'.heap.size (.slice sa (flTo t n.toNat (2 ^ n.toNat)).length sc) (flTo t n.toNat (2 ^ n.toNat)) ∧ Below w.heap.size w w' := by
  obtain ⟨i0, hi0, hz0, hz1, hz2⟩ := info_parts infoRow
  obtain ⟨N, rfl⟩ : ∃ N : Nat, n = (N : Int) := ⟨n.toNat, by omega⟩
  simp only [Int.toNat_natCast]
  obtain ⟨M, hM⟩ : ∃ M, 2 ^ N = M := ⟨_, rfl⟩
  have hM32 : M ≤ 32 := by rw [← hM]; exact Nat.pow_le_pow_right (n := 2) (by decide) (show N ≤ 5 by omega)
  have HPC : Hid (∀ w, Calls Try.prog 49 #[.int .i64 (N : Int)] w fun e w' => e = .returned (.int .i64 (M : Int)) ∧ w = w') := fun w => by
    have := l01Rows_any (N : Int) w n1 n5; unfold rcZ at this; rw [Int.toNat_natCast, hM] at this; exact this
  have HV := Lib.hid (fun (k : Nat) (hk : k < 32) (wx : World) => l04Value_any (k : Int) (by omega) (by omega) (txtF t).length t wx hw (Nat.le_refl _) hz)
  have HMo := Lib.hid (fun (cl : Bool) (k j : Nat) (hk : k < 32) (wx : World) => l08Moment_any (j : Int) cl (k : Int) (by omega) (by omega) (txtF t).length t wx hw (Nat.le_refl _) hz)
  have HL1 := Lib.hid (fun k => flTo_len t N (by omega) k)
  have HS1 := Lib.hid (fun k => flTo_succ t N k)
  have H00 : Hid (flTo t N 0 = []) := rfl
  have HR0 : Hid (∀ k, flRow t k 0 = []) := fun k => rfl
  have hO0 := Lib.hid (own2Made w w.heap.size (Nat.le_refl _))
  have HMM := Lib.hid hM
  clear hz hw hM n1
  generalize txtS t = s at *
  go_enter Try.func32, Try.ntmps32
  go_wp2_with fail
  go_loopw [5, 6] (fun u c wr => ∃ k : Nat, k ≤ M ∧ c = .int .i64 (k : Int) ∧ Below w.heap.size w wr ∧ Hid (Own2 wr w.heap.size wr.heap.size u (flTo t N k))) (fun _ c _ => M - (intOf c).toNat)
  case atStart => exact ⟨0, Nat.zero_le _, rfl, by go_grown, hO0⟩
  case round =>
    clear hO0
    obtain ⟨k, hk, rfl, hL, hO⟩ := hrel
    by_cases hkl : k < M
    · have hk1 : (k : Int) < (M : Int) := by omega
      have HVk := Lib.hid (HV.out k (by omega))
      have HMk := Lib.hid (fun cl (j : Nat) => HMo.out cl k j (by omega))
      have HTk := HL1.out k
      have hk0 : (0 : Int) ≤ (k : Int) := by omega
      go_wp2_with ((go_at_call 49; (with_reducible refine (HPC.out _).mono ?_); rintro e w' ⟨rfl, rfl⟩))
      go_loopw [5, 7] (fun u c wy => ∃ j : Nat, j ≤ N ∧ c = .int .i64 (j : Int) ∧ Below w.heap.size w wy ∧ Hid (Own2 wy w.heap.size wy.heap.size u (flTo t N k ++ flRow t k j))) (fun _ c _ => N - (intOf c).toNat)
      case atStart => exact ⟨0, Nat.zero_le _, rfl, hL, by rw [HR0.out, List.append_nil]; exact hO⟩
      case round =>
        clear hL hO
        obtain ⟨j, hj, rfl, hL, hO⟩ := hrel
        by_cases hjl : j < N
        · have hj1 : (j : Int) < (N : Int) := by omega
          have hj0 : (0 : Int) ≤ (j : Int) := by omega
          have HG := Lib.hid (HMk.out false j)
          have HB := Lib.hid (HMk.out true j)
          have Hl : (flTo t N k ++ flRow t k j).length ≤ 400 := by rw [List.length_append]; have := flRow_len t k j; omega
          obtain ⟨hp1, hp2⟩ := pow5N (i := j) (by omega)
          have HO := other_bits (r := k) (i := j) (by omega) (by omega)
          have hls := low_same ⟨k, by omega⟩ ⟨j, by omega⟩
          have hH31 := (low_facts ⟨k, by omega⟩ ⟨j, by omega⟩ 0).2.1
          simp only at hls hH31
          have HV2 := Lib.hid (HV.out (highN k j) (by omega))
          rcases (show digZ (k : Int) (j : Int) = 1 ∨ digZ (k : Int) (j : Int) = 0 by have := digZ_bd (k : Int) (j : Int); omega) with hd | hd
          · have HN : Hid (flTo t N k ++ flRow t k (j + 1) = flTo t N k ++ flRow t k j) := by rw [Hid, flRow_miss (by rw [flv_one hd])]
            have e1 : highN k j = k := hls.2.1 (by unfold digZ at hd; rw [Int.toNat_natCast, Int.toNat_natCast] at hd; omega)
            rw [e1] at HO
            clear hd hls hH31 HV2 e1
            generalize flTo t N k ++ flRow t k j = L at *
            go_wp2_with fail
            exact ⟨⟨j + 1, by omega, by go_num, hL, by rw [HN.out]; exact hO⟩, by simp [intOf]; omega⟩
          · have HQ := Lib.hid (flv_zero (t := t) hd)
            have e1 := hls.2.2 (by unfold digZ at hd; rw [Int.toNat_natCast, Int.toNat_natCast] at hd; omega)
            have HLow : Hid (lowR (k : Int) (j : Int) = (k : Int)) := by unfold Hid lowR; rw [Int.toNat_natCast, Int.toNat_natCast, e1.1]
            have HHigh : Hid (highR (k : Int) (j : Int) = ((highN k j : Nat) : Int)) := by unfold Hid highR; rw [Int.toNat_natCast, Int.toNat_natCast]
            have hne : (((highN k j : Nat) : Int) == (k : Int)) = false := by simp; omega
            have HQ2 : Hid (flv t k j = flk (b2i (valF (leafV (digZ (k : Int))) t)) (b2i (valF (leafV (digZ ((highN k j : Nat) : Int))) t)) (b2i (valF (momV k j false) t)) (b2i (valF (momV k j true) t))) := by
              unfold Hid; rw [HQ.out, HLow.out, HHigh.out]
            clear hd hls HQ HLow HHigh e1
            generalize highN k j = H at *
            cases h1 : valF (leafV (digZ (k : Int))) t <;> cases h2 : valF (leafV (digZ (H : Int))) t
            · rw [h1] at HVk
              rw [h2] at HV2
              cases h4 : valF (momV k j true) t
              · have HQ : Hid (flv t k j = (0, false)) := by unfold Hid; rw [HQ2.out, h1, h2, h4]; unfold flk fl1 fl2 b2i; simp
                have HN : Hid (flTo t N k ++ flRow t k (j + 1) = flTo t N k ++ flRow t k j) := by rw [Hid, flRow_miss (by rw [HQ.out])]
                rw [h4] at HB
                clear h1 h2 h4 HQ HQ2
                generalize flTo t N k ++ flRow t k j = L at *
                go_wp2_with (first | (go_at_call 40; (with_reducible refine (HVk.out _).mono ?_); rintro e w2 ⟨rfl, hb⟩; replace hL := chain (B := w.heap.size) (a := w) hL (Nat.le_refl _) hb; replace hO := Lib.hid (hO.out.later hb); clear hb) | (go_at_call 40; (with_reducible refine (HV2.out _).mono ?_); rintro e w2 ⟨rfl, hb⟩; replace hL := chain (B := w.heap.size) (a := w) hL (Nat.le_refl _) hb; replace hO := Lib.hid (hO.out.later hb); clear hb) | (go_at_call 45; (with_reducible refine (HG.out _).mono ?_); rintro e w2 ⟨rfl, hb⟩; replace hL := chain (B := w.heap.size) (a := w) hL (Nat.le_refl _) hb; replace hO := Lib.hid (hO.out.later hb); clear hb) | (go_at_call 45; (with_reducible refine (HB.out _).mono ?_); rintro e w2 ⟨rfl, hb⟩; replace hL := chain (B := w.heap.size) (a := w) hL (Nat.le_refl _) hb; replace hO := Lib.hid (hO.out.later hb); clear hb))
                exact ⟨⟨j + 1, by omega, by go_num, hL, by rw [HN.out]; exact hO⟩, by simp [intOf]; omega⟩
              · have HQ : Hid (flv t k j = (1, true)) := by unfold Hid; rw [HQ2.out, h1, h2, h4]; unfold flk fl1 fl2 b2i; simp
                rw [h4] at HB
                clear h1 h2 h4 HQ2
                have HN : Hid (flTo t N k ++ flRow t k (j + 1) = (flTo t N k ++ flRow t k j) ++ [[(k : Int), (j : Int), 1]]) := by rw [Hid, flRow_hit (by rw [HQ.out]), HQ.out, List.append_assoc]
                clear HQ
                generalize flTo t N k ++ flRow t k j = L at *
                go_wp2_with fail
                refine (HVk.out _).mono ?_
                rintro e w2 ⟨rfl, hb⟩
                replace hL := chain (B := w.heap.size) (a := w) hL (Nat.le_refl _) hb
                replace hO := Lib.hid (hO.out.later hb)
                clear hb
                go_wp2_with fail
                refine (HV2.out _).mono ?_
                rintro e w2 ⟨rfl, hb⟩
                replace hL := chain (B := w.heap.size) (a := w) hL (Nat.le_refl _) hb
                replace hO := Lib.hid (hO.out.later hb)
                clear hb
                go_wp2_with fail
                refine (HVk.out _).mono ?_
                rintro e w2 ⟨rfl, hb⟩
                replace hL := chain (B := w.heap.size) (a := w) hL (Nat.le_refl _) hb
                replace hO := Lib.hid (hO.out.later hb)
                clear hb
                go_wp2_with fail
                refine (HVk.out _).mono ?_
                rintro e w2 ⟨rfl, hb⟩
                replace hL := chain (B := w.heap.size) (a := w) hL (Nat.le_refl _) hb
                replace hO := Lib.hid (hO.out.later hb)
                clear hb
                go_wp2_with fail
                refine (HB.out _).mono ?_
                rintro e w3 ⟨rfl, hb⟩
                replace hL := chain (B := w.heap.size) (a := w) hL (Nat.le_refl _) hb
                replace hO := Lib.hid (hO.out.later hb)
                clear hb
                have hfrom := Lib.hid hO.out.from
                have hz3 := hL.size
                have hB1 : Below w3.heap.size w3 (w3.alloc (.cells #[.int .i64 (k : Int), .int .i64 (j : Int), .int .i64 1] 2)) := (Below.refl _ _).alloc (Nat.le_refl _) _
                have HB1 := Lib.hid hB1
                have HRows := Lib.hid (fun o => hO.out.asRows HB1.out o)
                have HTwo := Lib.hid (ownsThree w3 (k : Int) (j : Int) 1 w3.heap.size (Nat.le_refl _))
                clear hB1
                go_wp2_with (at_builtin; refine wpList_append_own_at _ rfl _ _ 25 rfl w.heap.size 57 i0 (.slice none 0 0) 1 24 Try.underlying25 hi0 hz0 hz1 hz2 rfl (by decide) _ L.length ((List.range L.length).map (Classical.choose hO.out)) rfl (HRows.out _) ⟨w3.heap.size + 1, 0, none⟩ 1 1 [.slice (some ⟨w3.heap.size, 0, none⟩) 3 3] rfl rfl (by have h := cell_one_new (w3.alloc (.cells #[.int .i64 (k : Int), .int .i64 (j : Int), .int .i64 1] 2)) (.slice (some ⟨w3.heap.size, 0, none⟩) 3 3) 57; rw [World.size_alloc] at h; exact h) (by simp [Value.oneCell']) (by unfold maxLen; omega) (by omega) (by simp; omega) ?_; intro v' w4 hown' hgrow hnil hat)
                have HO3 := Lib.hid (Own2.more _ hO.out (by omega) HB1.out HTwo.out hown' hgrow hat)
                exact ⟨⟨j + 1, by omega, by go_num, ((hL.alloc (by omega) _).alloc (by simp; omega) _).grown hgrow (by simp; omega) (fun q e => hfrom.out q e), by rw [HN.out]; exact HO3⟩, by simp [intOf]; omega⟩
            · have HQ : Hid (flv t k j = (0, false)) := by unfold Hid; rw [HQ2.out, h1, h2]; unfold flk fl1 fl2 b2i; simp
              have HN : Hid (flTo t N k ++ flRow t k (j + 1) = flTo t N k ++ flRow t k j) := by rw [Hid, flRow_miss (by rw [HQ.out])]
              rw [h1] at HVk
              rw [h2] at HV2
              clear h1 h2 HQ HQ2
              generalize flTo t N k ++ flRow t k j = L at *
              go_wp2_with (first | (go_at_call 40; (with_reducible refine (HVk.out _).mono ?_); rintro e w2 ⟨rfl, hb⟩; replace hL := chain (B := w.heap.size) (a := w) hL (Nat.le_refl _) hb; replace hO := Lib.hid (hO.out.later hb); clear hb) | (go_at_call 40; (with_reducible refine (HV2.out _).mono ?_); rintro e w2 ⟨rfl, hb⟩; replace hL := chain (B := w.heap.size) (a := w) hL (Nat.le_refl _) hb; replace hO := Lib.hid (hO.out.later hb); clear hb) | (go_at_call 45; (with_reducible refine (HG.out _).mono ?_); rintro e w2 ⟨rfl, hb⟩; replace hL := chain (B := w.heap.size) (a := w) hL (Nat.le_refl _) hb; replace hO := Lib.hid (hO.out.later hb); clear hb) | (go_at_call 45; (with_reducible refine (HB.out _).mono ?_); rintro e w2 ⟨rfl, hb⟩; replace hL := chain (B := w.heap.size) (a := w) hL (Nat.le_refl _) hb; replace hO := Lib.hid (hO.out.later hb); clear hb))
              exact ⟨⟨j + 1, by omega, by go_num, hL, by rw [HN.out]; exact hO⟩, by simp [intOf]; omega⟩
            · have HQ : Hid (flv t k j = (0, false)) := by unfold Hid; rw [HQ2.out, h1, h2]; unfold flk fl1 fl2 b2i; simp
              have HN : Hid (flTo t N k ++ flRow t k (j + 1) = flTo t N k ++ flRow t k j) := by rw [Hid, flRow_miss (by rw [HQ.out])]
              rw [h1] at HVk
              rw [h2] at HV2
              clear h1 h2 HQ HQ2
              generalize flTo t N k ++ flRow t k j = L at *
              go_wp2_with (first | (go_at_call 40; (with_reducible refine (HVk.out _).mono ?_); rintro e w2 ⟨rfl, hb⟩; replace hL := chain (B := w.heap.size) (a := w) hL (Nat.le_refl _) hb; replace hO := Lib.hid (hO.out.later hb); clear hb) | (go_at_call 40; (with_reducible refine (HV2.out _).mono ?_); rintro e w2 ⟨rfl, hb⟩; replace hL := chain (B := w.heap.size) (a := w) hL (Nat.le_refl _) hb; replace hO := Lib.hid (hO.out.later hb); clear hb) | (go_at_call 45; (with_reducible refine (HG.out _).mono ?_); rintro e w2 ⟨rfl, hb⟩; replace hL := chain (B := w.heap.size) (a := w) hL (Nat.le_refl _) hb; replace hO := Lib.hid (hO.out.later hb); clear hb) | (go_at_call 45; (with_reducible refine (HB.out _).mono ?_); rintro e w2 ⟨rfl, hb⟩; replace hL := chain (B := w.heap.size) (a := w) hL (Nat.le_refl _) hb; replace hO := Lib.hid (hO.out.later hb); clear hb))
              exact ⟨⟨j + 1, by omega, by go_num, hL, by rw [HN.out]; exact hO⟩, by simp [intOf]; omega⟩
            · rw [h1] at HVk
              rw [h2] at HV2
              cases h3 : valF (momV k j false) t
              · have HQ : Hid (flv t k j = (0, true)) := by unfold Hid; rw [HQ2.out, h1, h2, h3]; unfold flk fl1 fl2 b2i; simp
                rw [h3] at HG
                clear h1 h2 h3 HQ2
                have HN : Hid (flTo t N k ++ flRow t k (j + 1) = (flTo t N k ++ flRow t k j) ++ [[(k : Int), (j : Int), 0]]) := by rw [Hid, flRow_hit (by rw [HQ.out]), HQ.out, List.append_assoc]
                clear HQ
                generalize flTo t N k ++ flRow t k j = L at *
                go_wp2_with fail
                refine (HVk.out _).mono ?_
                rintro e w2 ⟨rfl, hb⟩
                replace hL := chain (B := w.heap.size) (a := w) hL (Nat.le_refl _) hb
                replace hO := Lib.hid (hO.out.later hb)
                clear hb
                go_wp2_with fail
                refine (HV2.out _).mono ?_
                rintro e w2 ⟨rfl, hb⟩
                replace hL := chain (B := w.heap.size) (a := w) hL (Nat.le_refl _) hb
                replace hO := Lib.hid (hO.out.later hb)
                clear hb
                go_wp2_with fail
                refine (HVk.out _).mono ?_
                rintro e w2 ⟨rfl, hb⟩
                replace hL := chain (B := w.heap.size) (a := w) hL (Nat.le_refl _) hb
                replace hO := Lib.hid (hO.out.later hb)
                clear hb
                go_wp2_with fail
                refine (HG.out _).mono ?_
                rintro e w3 ⟨rfl, hb⟩
                replace hL := chain (B := w.heap.size) (a := w) hL (Nat.le_refl _) hb
                replace hO := Lib.hid (hO.out.later hb)
                clear hb
                have hfrom := Lib.hid hO.out.from
                have hz3 := hL.size
                have hB1 : Below w3.heap.size w3 (w3.alloc (.cells #[.int .i64 (k : Int), .int .i64 (j : Int), .int .i64 0] 2)) := (Below.refl _ _).alloc (Nat.le_refl _) _
                have HB1 := Lib.hid hB1
                have HRows := Lib.hid (fun o => hO.out.asRows HB1.out o)
                have HTwo := Lib.hid (ownsThree w3 (k : Int) (j : Int) 0 w3.heap.size (Nat.le_refl _))
                clear hB1
                go_wp2_with (at_builtin; refine wpList_append_own_at _ rfl _ _ 25 rfl w.heap.size 57 i0 (.slice none 0 0) 1 24 Try.underlying25 hi0 hz0 hz1 hz2 rfl (by decide) _ L.length ((List.range L.length).map (Classical.choose hO.out)) rfl (HRows.out _) ⟨w3.heap.size + 1, 0, none⟩ 1 1 [.slice (some ⟨w3.heap.size, 0, none⟩) 3 3] rfl rfl (by have h := cell_one_new (w3.alloc (.cells #[.int .i64 (k : Int), .int .i64 (j : Int), .int .i64 0] 2)) (.slice (some ⟨w3.heap.size, 0, none⟩) 3 3) 57; rw [World.size_alloc] at h; exact h) (by simp [Value.oneCell']) (by unfold maxLen; omega) (by omega) (by simp; omega) ?_; intro v' w4 hown' hgrow hnil hat)
                have HO3 := Lib.hid (Own2.more _ hO.out (by omega) HB1.out HTwo.out hown' hgrow hat)
                exact ⟨⟨j + 1, by omega, by go_num, ((hL.alloc (by omega) _).alloc (by simp; omega) _).grown hgrow (by simp; omega) (fun q e => hfrom.out q e), by rw [HN.out]; exact HO3⟩, by simp [intOf]; omega⟩
              · have HQ : Hid (flv t k j = (0, false)) := by unfold Hid; rw [HQ2.out, h1, h2, h3]; unfold flk fl1 fl2 b2i; simp
                have HN : Hid (flTo t N k ++ flRow t k (j + 1) = flTo t N k ++ flRow t k j) := by rw [Hid, flRow_miss (by rw [HQ.out])]
                rw [h3] at HG
                clear h1 h2 h3 HQ HQ2
                generalize flTo t N k ++ flRow t k j = L at *
                go_wp2_with (first | (go_at_call 40; (with_reducible refine (HVk.out _).mono ?_); rintro e w2 ⟨rfl, hb⟩; replace hL := chain (B := w.heap.size) (a := w) hL (Nat.le_refl _) hb; replace hO := Lib.hid (hO.out.later hb); clear hb) | (go_at_call 40; (with_reducible refine (HV2.out _).mono ?_); rintro e w2 ⟨rfl, hb⟩; replace hL := chain (B := w.heap.size) (a := w) hL (Nat.le_refl _) hb; replace hO := Lib.hid (hO.out.later hb); clear hb) | (go_at_call 45; (with_reducible refine (HG.out _).mono ?_); rintro e w2 ⟨rfl, hb⟩; replace hL := chain (B := w.heap.size) (a := w) hL (Nat.le_refl _) hb; replace hO := Lib.hid (hO.out.later hb); clear hb) | (go_at_call 45; (with_reducible refine (HB.out _).mono ?_); rintro e w2 ⟨rfl, hb⟩; replace hL := chain (B := w.heap.size) (a := w) hL (Nat.le_refl _) hb; replace hO := Lib.hid (hO.out.later hb); clear hb))
                exact ⟨⟨j + 1, by omega, by go_num, hL, by rw [HN.out]; exact hO⟩, by simp [intOf]; omega⟩
        · have e : j = N := by omega
          have hjn : ¬ (j : Int) < (N : Int) := by omega
          rw [e, ← HS1.out] at hO
          clear e
          go_wp2_with fail
          exact ⟨⟨k + 1, by omega, by go_num, hL, hO⟩, by simp [intOf]; omega⟩
    · have e : k = M := by omega
      have hkn : ¬ (k : Int) < (M : Int) := by omega
      rw [e] at hO
      clear e
      obtain ⟨sa, sc, rfl, _⟩ := hO.out.reads
      go_wp2_with ((go_at_call 49; (with_reducible refine (HPC.out _).mono ?_); rintro e w' ⟨rfl, rfl⟩))
      go_ret
      rw [HMM.out]
      exact ⟨sa, sc, rfl, hO.out, hL⟩

end Go.Proofs.Ytohmhiodmaahfaa
