/- SelectorWithLoads: the model's. -/
import Derived.Test.YtkojdaafgbfioaaDoorSwl
namespace Go.Proofs.YtkojdaafgbfioaaDoor
open Go.RowKit
set_option linter.unusedVariables false

def eqTo (ys xs : List Int) (i : Nat) : Bool := decide (∀ q, q < i → ys.getD q 0 = xs.getD q 0)
theorem eqTo_zero (ys xs : List Int) : eqTo ys xs 0 = true := decide_eq_true fun q h => by omega
theorem eqTo_succ (ys xs : List Int) (i : Nat) : eqTo ys xs (i + 1) = (eqTo ys xs i && (ys.getD i 0 == xs.getD i 0)) := by
  unfold eqTo
  rw [Bool.eq_iff_iff, Bool.and_eq_true, decide_eq_true_eq, decide_eq_true_eq, beq_iff_eq]
  constructor
  · exact fun h => ⟨fun q hq => h q (by omega), h i (by omega)⟩
  · rintro ⟨h1, h2⟩ q hq
    rcases Nat.lt_or_ge q i with h | h
    · exact h1 q h
    · have : q = i := by omega
      subst this; exact h2
theorem eqTo_all {ys xs : List Int} (h : ys.length = xs.length) : eqTo ys xs xs.length = (ys == xs) := by
  unfold eqTo
  rw [Bool.eq_iff_iff, decide_eq_true_eq, beq_iff_eq]
  constructor
  · exact fun hh => getD_ext h fun i hi => hh i (by omega)
  · rintro rfl q _; rfl

set_option maxRecDepth 100000 in
set_option maxHeartbeats 4000000 in
theorem sSelectorWithLoads_any (v : Value) (xs : List Int) (w : World) (ha : Reads w v xs) :
    Calls Tryd.prog 5 #[v] w fun e w' => e = .returned (.tuple #[.string (resSelectorWithLoads_0 xs), .int .i64 (resSelectorWithLoads_1 xs)]) ∧ Below w.heap.size w w' := by
  unfold resSelectorWithLoads_0 resSelectorWithLoads_1
  have HA := Lib.hid (fun wx (hb : Below w.heap.size w wx) => ha.keep hb)
  obtain ⟨a, ca, rfl, hm, ha'⟩ := ha
  have Ha : Hid (∀ i, i < xs.length → ∃ b off, a = some ⟨b, off, none⟩ ∧ w.cell? ⟨b, off + i, none⟩ = some (.int .i64 (xs.getD i 0))) := by
    rcases ha' with rfl | ⟨b, off, rfl, ha'⟩
    · intro i hi; simp at hi
    · intro i hi; exact ⟨b, off, rfl, ha' i hi⟩
  clear ha'
  by_cases hn : 1 ≤ xs.length ∧ xs.length ≤ 4
  · have HSz := Lib.hid (fun w => l01In_yes (xs.length : Int) 1 4 w (by omega))
    obtain ⟨j0, hj0, hno0, hyes0⟩ := firstB (fun i => !decide (0 ≤ xs.getD i 0 ∧ xs.getD i 0 ≤ 15)) xs.length
    have HN0 : Hid (∀ i, i < j0 → 0 ≤ xs.getD i 0 ∧ xs.getD i 0 ≤ 15) := fun i hi => by have := hno0 i hi; simpa using this
    have HY0 : Hid (j0 < xs.length → ¬ (0 ≤ xs.getD j0 0 ∧ xs.getD j0 0 ≤ 15)) := fun h hh => by
      have := hyes0 h
      simp only [decide_eq_true hh] at this
      cases this
    obtain ⟨R, hR⟩ : ∃ R, swl xs = R := ⟨_, rfl⟩
    have HBad : Hid (j0 < xs.length → R = (ByteArray.empty, 2)) := fun h => by
      rw [← hR]
      exact swl_out (decide_eq_false fun hh => HY0.out h (by have := hh.2 j0 h; omega))
    have hok : ¬ j0 < xs.length → okL xs = true := fun h => decide_eq_true ⟨hn, fun i hi => by have := HN0.out i (by omega); omega⟩
    have HRy : Hid (¬ j0 < xs.length → idxS xs < (allS xs).length → R = ((allS xs).getD (idxS xs) ByteArray.empty, 0)) := fun h0 h => by rw [← hR, swl_in (hok h0), if_pos h]
    have HRn : Hid (¬ j0 < xs.length → ¬ idxS xs < (allS xs).length → R = (ByteArray.empty, 4)) := fun h0 h => by rw [← hR, swl_in (hok h0), if_neg h]
    rw [hR]
    have hL32 : 2 ^ xs.length - 1 < 32 := by
      have := pow5' (n := xs.length) (by omega); have := Nat.two_pow_pos xs.length; omega
    have hpcf := pc_full ⟨xs.length, by omega⟩
    have HRow : Hid (∀ w, Calls Tryd.prog 15 #[.int .i64 (xs.length : Int)] w fun e w' => e = .returned (.int .i64 ((2 ^ xs.length : Nat) : Int)) ∧ w = w') := fun w => by
      have := l01Rows_any (xs.length : Int) w (by omega) (by omega); unfold rcZ at this; rwa [Int.toNat_natCast] at this
    have hp1 : (1 : Int) ≤ ((2 ^ xs.length : Nat) : Int) := by have := Nat.two_pow_pos xs.length; omega
    have hp32 : ((2 ^ xs.length : Nat) : Int) ≤ 32 := by have := pow5' (n := xs.length) (by omega); omega
    have HSel := Lib.hid (fun w => l09All_any xs.length (2 ^ xs.length - 1) w hL32 hpcf hn.2)
    rw [show ((2 ^ xs.length - 1 : Nat) : Int) = ((2 ^ xs.length : Nat) : Int) - 1 by omega] at HSel
    have HNo := Lib.hid (fun i (h : i < idxS xs) => idxS_no h)
    have HYes : Hid (idxS xs < (allS xs).length → (ldsL ((allS xs).getD (idxS xs) ByteArray.empty) xs.length == xs) = true) := fun h => idxS_yes h
    have hjl : idxS xs ≤ (allS xs).length := List.findIdx_le_length
    have hal : (allS xs).length ≤ 576 := by
      unfold allS; rw [selL_len _ hL32 hpcf]; exact cntS_le hn.2
    have HLd : Hid (∀ k, k < (allS xs).length → ∀ w, Calls Tryd.prog 16 #[.int .i64 (xs.length : Int), .string ((allS xs).getD k ByteArray.empty)] w fun e w' => ∃ q, e = .returned q ∧ Owns w' w.heap.size q (ldsL ((allS xs).getD k ByteArray.empty) xs.length) ∧ Below w.heap.size w w') := fun k hk w => by
      refine l09Loads_any xs.length _ w hn.1 (by omega) (selL_sel _ hL32 hpcf _ ?_)
      rw [List.getD_eq_getElem?_getD, List.getElem?_eq_getElem hk]; exact List.getElem_mem hk
    have hsl : selL xs.length (2 ^ xs.length - 1) = allS xs := rfl
    rw [hsl] at HSel
    generalize allS xs = l at *
    generalize idxS xs = j at *
    generalize ((2 ^ xs.length : Nat) : Int) = RC at *
    clear hsl hL32 hno0 hyes0 hok hR hpcf
    go_enter Tryd.func5, Tryd.ntmps5
    go_wp2_with ((go_at_call 13; (with_reducible refine (HSz.out _).mono ?_); rintro e w' ⟨rfl, rfl⟩))
    go_loopw [5] (fun c wr => ∃ k : Nat, k ≤ j0 ∧ c = .int .i64 (k : Int) ∧ Below w.heap.size w wr) (fun c _ => xs.length - (intOf c).toNat)
    case atStart => exact ⟨0, Nat.zero_le _, rfl, Below.refl _ _⟩
    case round =>
      obtain ⟨k, hk, rfl, hL⟩ := hrel
      by_cases hlt : k < xs.length
      · obtain ⟨b, off, rfl, hc0⟩ := Ha.out k hlt
        have hca := cell_later hL hc0
        have hi1 : (k : Int) < (xs.length : Int) := by omega
        have hi0 : (0 : Int) ≤ (k : Int) := by omega
        clear hc0
        by_cases hkj : k < j0
        · have HI := Lib.hid (fun w => l01In_yes (xs.getD k 0) 0 15 w (HN0.out k hkj))
          generalize xs.getD k 0 = x at *
          go_wp2_with ((go_at_call 13; (with_reducible refine (HI.out _).mono ?_); rintro e w' ⟨rfl, rfl⟩))
          exact ⟨⟨k + 1, by omega, by go_num, hL⟩, by simp [intOf]; omega⟩
        · have e : k = j0 := by omega
          subst e
          have HI := Lib.hid (fun w => l01In_no (xs.getD k 0) 0 15 w (HY0.out hlt))
          have HRR := Lib.hid (HBad.out hlt)
          generalize xs.getD k 0 = x at *
          go_wp2_with ((go_at_call 13; (with_reducible refine (HI.out _).mono ?_); rintro e w' ⟨rfl, rfl⟩))
          go_ret2
          exact ⟨by rw [HRR.out]; rfl, hL⟩
      · have hj0' : ¬ j0 < xs.length := by omega
        have HRy2 := Lib.hid (HRy.out hj0')
        have HRn2 := Lib.hid (HRn.out hj0')
        have hin : ¬ (k : Int) < (xs.length : Int) := by omega
        clear hj0' HBad HN0 HY0 HRy HRn hk
        go_wp2_with ((go_at_call 15; (with_reducible refine (HRow.out _).mono ?_); rintro e w' ⟨rfl, rfl⟩))
        refine (HSel.out _).mono ?_
        rintro e w2 ⟨q, rfl, hq, hb⟩
        replace hL := chain (B := w.heap.size) (a := w) hL (Nat.le_refl _) hb
        have hz2 := hL.size
        have HQ := Lib.hid (fun wx (hb : Below w2.heap.size w2 wx) => hq.rd.keep hb)
        obtain ⟨qa, qc, rfl, _⟩ := hq.rd
        obtain ⟨M, hM⟩ : ∃ M, l.length = M := ⟨_, rfl⟩
        have HMl := Lib.hid hM
        rw [hM] at hjl hal HYes HRy2 HRn2 HLd ⊢
        clear hb hq hM hlt hin
        go_wp2_with fail
        go_loopw [7] (fun c wr => ∃ k : Nat, k ≤ j ∧ c = .int .i64 (k : Int) ∧ Below w2.heap.size w2 wr) (fun c _ => M - (intOf c).toNat)
        case atStart => exact ⟨0, Nat.zero_le _, rfl, Below.refl _ _⟩
        case round =>
          obtain ⟨k, hk, rfl, hL2⟩ := hrel
          by_cases hlt : k < M
          · obtain ⟨qa', qc', ev, hcv⟩ := HQ.out wr hL2
            injection ev with ev1 ev2 ev3
            subst ev1
            obtain ⟨g, rfl, hca⟩ := hcv k (by rw [HMl.out]; exact hlt)
            have hi1 : (k : Int) < (M : Int) := by omega
            have hi0 : (0 : Int) ≤ (k : Int) := by omega
            have hLw := hL.trans (hL2.mono hz2)
            have hzw := hL2.size
            have HLs := Lib.hid (HLd.out k hlt)
            clear hcv ev2 ev3
            obtain ⟨bb, hbb⟩ : ∃ bb, (ldsL (l.getD k ByteArray.empty) xs.length == xs) = bb := ⟨_, rfl⟩
            have HBB : Hid ((k < j → bb = false) ∧ (¬ k < j → bb = true)) := ⟨fun h => by rw [← hbb]; exact HNo.out k h, fun h => by
              have e : k = j := by omega
              rw [← hbb, e]; exact HYes.out (by omega)⟩
            have hylen : (ldsL (l.getD k ByteArray.empty) xs.length).length = xs.length := by unfold ldsL; rw [listF_len]
            have HEA : Hid (eqTo (ldsL (l.getD k ByteArray.empty) xs.length) xs xs.length = bb) := by unfold Hid; rw [eqTo_all hylen, hbb]
            have HRR : Hid (¬ k < j → R = (l.getD k ByteArray.empty, 0)) := fun h => by
              have e : k = j := by omega
              rw [e]; exact HRy2.out (by omega)
            generalize l.getD k ByteArray.empty = s at *
            have HYl := Lib.hid hylen
            generalize ldsL s xs.length = ys at *
            clear hylen hbb
            go_wp2_with fail
            refine (HLs.out _).mono ?_
            rintro e w3 ⟨u, rfl, hu, hb3⟩
            have hL3 := hL2.trans (hb3.mono hzw)
            have hW3 := hLw.trans (hb3.mono hLw.size)
            have hz3 := hL3.size
            have HR3 := Lib.hid (fun wx (hb : Below w3.heap.size w3 wx) => hu.reads.keep hb)
            obtain ⟨ya, yc, rfl, _, _⟩ := hu.reads
            have hcs := cell_later hb3 hca
            rw [HYl.out]
            clear hu hb3
            go_wp2_with fail
            go_loopw [9, 46] (fun sm c wx => ∃ i : Nat, i ≤ xs.length ∧ c = .int .i64 (i : Int) ∧ sm = .bool (eqTo ys xs i) ∧ Below w3.heap.size w3 wx) (fun _ c _ => xs.length - (intOf c).toNat)
            case atStart => exact ⟨0, Nat.zero_le _, rfl, by rw [eqTo_zero], Below.refl _ _⟩
            case round =>
              obtain ⟨i, hi, rfl, rfl, hL4⟩ := hrel
              by_cases hil : i < xs.length
              · have hii1 : (i : Int) < (xs.length : Int) := by omega
                have hii0 : (0 : Int) ≤ (i : Int) := by omega
                obtain ⟨b2, off2, e2, hd0⟩ := Ha.out i hil
                subst e2
                have hcx := cell_later (hW3.trans (hL4.mono (by have := hW3.size; omega))) hd0
                obtain ⟨ya', yc', ev, _, hcv⟩ := HR3.out _ hL4
                injection ev with ev1 ev2 ev3
                subst ev1
                rcases hcv with hnil | ⟨gy, offy, rfl, hcv⟩
                · have h0 : ys.length = 0 := by rw [hnil]; rfl
                  have := HYl.out; omega
                have hcy := hcv i (by rw [HYl.out]; exact hil)
                have HES := Lib.hid (eqTo_succ ys xs i)
                clear hcv ev2 ev3 hd0
                generalize ys.getD i 0 = y at *
                generalize xs.getD i 0 = x at *
                cases hsm : eqTo ys xs i
                · rw [hsm, Bool.false_and] at HES
                  clear hsm
                  go_wp2_with fail
                  go_quiet (fail)
                  go_wp2_with fail
                  exact ⟨⟨i + 1, by omega, by go_num, by rw [HES.out], Bdrew hL4 _⟩, by simp [intOf]; omega⟩
                · rw [hsm, Bool.true_and] at HES
                  clear hsm
                  go_wp2_with fail
                  go_quiet (fail)
                  go_wp2_with fail
                  exact ⟨⟨i + 1, by omega, by go_num, by rw [HES.out], Bdrew hL4 _⟩, by simp [intOf]; omega⟩
              · have e : i = xs.length := by omega
                rw [e, HEA.out]
                have hin : ¬ (i : Int) < (xs.length : Int) := by omega
                have hcs4 := cell_later hL4 hcs
                by_cases hkj : k < j
                · have hbf := HBB.out.1 hkj
                  subst hbf
                  clear e
                  go_wp2_with fail
                  exact ⟨⟨k + 1, by omega, by go_num, hL3.trans (hL4.mono hz3)⟩, by simp [intOf]; omega⟩
                · have hbf := HBB.out.2 hkj
                  subst hbf
                  have HR5 := Lib.hid (HRR.out hkj)
                  clear e
                  go_wp2_with fail
                  go_ret2
                  exact ⟨by rw [HR5.out]; rfl, hW3.trans (hL4.mono (by have := hW3.size; omega))⟩
          · have hin : ¬ (k : Int) < (M : Int) := by omega
            have HRR : Hid (R = (ByteArray.empty, 4)) := HRn2.out (by omega)
            go_wp2_with fail
            go_ret2
            exact ⟨by rw [HRR.out]; rfl, hL.trans (hL2.mono hz2)⟩
  · have hok : okL xs = false := decide_eq_false (fun h => hn h.1)
    rw [swl_out hok]
    have HSz := Lib.hid (fun w => l01In_no (xs.length : Int) 1 4 w (by omega))
    clear hok hn
    go_enter Tryd.func5, Tryd.ntmps5
    go_wp2_with ((go_at_call 13; (with_reducible refine (HSz.out _).mono ?_); rintro e w' ⟨rfl, rfl⟩))
    go_ret2
    exact ⟨rfl, Below.refl _ _⟩

end Go.Proofs.YtkojdaafgbfioaaDoor
