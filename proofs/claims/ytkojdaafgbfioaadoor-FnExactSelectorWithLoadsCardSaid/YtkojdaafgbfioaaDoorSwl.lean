/- SelectorWithLoads: both contracts. -/
import Derived.Test.YtkojdaafgbfioaaDoorSaS
import Derived.Test.YtkojdaafgbfioaaDoorSlo9
import Derived.Test.YtkojdaafgbfioaaDoorCoF
import Derived.BigQuiet
namespace Go.Proofs.YtkojdaafgbfioaaDoor
open Go.RowKit
set_option linter.unusedVariables false

theorem getD_ext {xs ys : List Int} (h : xs.length = ys.length) (hg : ∀ i, i < xs.length → xs.getD i 0 = ys.getD i 0) : xs = ys := by
  apply List.ext_getElem h
  intro i h1 h2
  have := hg i h1
  rw [List.getD_eq_getElem?_getD, List.getD_eq_getElem?_getD, List.getElem?_eq_getElem h1, List.getElem?_eq_getElem h2] at this
  exact this

set_option maxRecDepth 100000 in
set_option maxHeartbeats 1000000 in
/-- slices.Equal at two lists of the same length -/
theorem equal_any (u v : Value) (xs ys : List Int) (w : World) (hu : Reads w u xs) (hv : Reads w v ys) (hl : xs.length = ys.length) {b : Bool} (hb : (xs == ys) = b) :
    Calls Tryd.prog 24 #[u, v] w fun e w' => e = .returned (.bool b) ∧ Below w.heap.size w w' := by
  obtain ⟨a, ca, rfl, hm, ha'⟩ := hu
  obtain ⟨a2, ca2, rfl, hm2, ha2'⟩ := hv
  unfold maxLen at hm hm2
  have Ha : Hid (∀ i, i < xs.length → ∃ b off, a = some ⟨b, off, none⟩ ∧ w.cell? ⟨b, off + i, none⟩ = some (.int .i64 (xs.getD i 0))) := by
    rcases ha' with rfl | ⟨b, off, rfl, ha'⟩
    · intro i hi; simp at hi
    · intro i hi; exact ⟨b, off, rfl, ha' i hi⟩
  have Ha2 : Hid (∀ i, i < ys.length → ∃ b off, a2 = some ⟨b, off, none⟩ ∧ w.cell? ⟨b, off + i, none⟩ = some (.int .i64 (ys.getD i 0))) := by
    rcases ha2' with rfl | ⟨b, off, rfl, ha'⟩
    · intro i hi; simp at hi
    · intro i hi; exact ⟨b, off, rfl, ha' i hi⟩
  obtain ⟨j, hj, hno, hyes⟩ := firstB (fun i => xs.getD i 0 != ys.getD i 0) xs.length
  have HNo : Hid (∀ i, i < j → (xs.getD i 0 != ys.getD i 0) = false) := hno
  have HYes : Hid (j < xs.length → (xs.getD j 0 != ys.getD j 0) = true) := hyes
  have HR : Hid (b = decide (j = xs.length)) := by
    unfold Hid
    rw [← hb]
    by_cases e : j = xs.length
    · rw [decide_eq_true e, beq_iff_eq]
      exact getD_ext hl fun i hi => by have := hno i (by omega); simpa using this
    · rw [decide_eq_false e, beq_eq_false_iff_ne]
      intro h
      have := hyes (by omega)
      rw [h] at this; simp at this
  clear ha' ha2' hno hyes hb
  obtain ⟨M, hM⟩ : ∃ M, xs.length = M := ⟨_, rfl⟩
  rw [← hl] at Ha2
  have HL := Lib.hid hl
  rw [← hl]
  rw [hM] at Ha Ha2 HYes HR hj hm ⊢
  clear hl hM hm2
  go_enter Tryd.func24, Tryd.ntmps24
  go_wp2_with fail
  go_loopw [13] (fun c wr => ∃ k : Nat, k ≤ j ∧ c = .int .i64 (k : Int) ∧ Below w.heap.size w wr) (fun c _ => M - (intOf c).toNat)
  case atStart => exact ⟨0, Nat.zero_le _, rfl, Below.refl _ _⟩
  case round =>
    obtain ⟨k, hk, rfl, hL⟩ := hrel
    by_cases hlt : k < M
    · obtain ⟨b1, off, rfl, hc0⟩ := Ha.out k hlt
      obtain ⟨b2, off2, rfl, hd0⟩ := Ha2.out k hlt
      have hca := cell_later hL hc0
      have hcb := cell_later hL hd0
      have hi1 : (k : Int) < (M : Int) := by omega
      have hi0 : (0 : Int) ≤ (k : Int) := by omega
      clear hc0 hd0
      by_cases hkj : k < j
      · have hd := HNo.out k hkj
        generalize xs.getD k 0 = y at *
        generalize ys.getD k 0 = z at *
        go_wp2_with fail
        go_quiet (fail)
        go_wp2_with fail
        exact ⟨⟨k + 1, by omega, by go_num, Bdrew hL _⟩, by simp [intOf]; omega⟩
      · have e : k = j := by omega
        subst e
        have hd := HYes.out hlt
        have hr : Hid (b = false) := by unfold Hid; rw [HR.out, decide_eq_false (by omega)]
        generalize xs.getD k 0 = y at *
        generalize ys.getD k 0 = z at *
        go_wp2_with fail
        go_quiet (fail)
        go_wp2_with fail
        go_ret
        exact ⟨by rw [hr.out]; rfl, Bdrew hL _⟩
    · have hr : Hid (b = true) := by unfold Hid; rw [HR.out, decide_eq_true (by omega)]
      have hi1 : ¬ (k : Int) < (M : Int) := by omega
      go_wp2_with fail
      go_ret
      exact ⟨by rw [hr.out]; rfl, hL⟩

/-- are these loads to be looked for -/
def okL (xs : List Int) : Bool := decide ((1 ≤ xs.length ∧ xs.length ≤ 4) ∧ ∀ i, i < xs.length → 0 ≤ xs.getD i 0 ∧ xs.getD i 0 < 16)
def allS (xs : List Int) : List ByteArray := selL xs.length (2 ^ xs.length - 1)
/-- the place of the first selector with these loads -/
def idxS (xs : List Int) : Nat := (allS xs).findIdx fun u => ldsL u xs.length == xs
def swl (xs : List Int) : ByteArray × Int := if okL xs = true then (if idxS xs < (allS xs).length then ((allS xs).getD (idxS xs) ByteArray.empty, 0) else (ByteArray.empty, 4)) else (ByteArray.empty, 2)
def resSelectorWithLoads_0 (xs : List Int) : ByteArray := (swl xs).1
def resSelectorWithLoads_1 (xs : List Int) : Int := (swl xs).2
theorem swl_out {xs : List Int} (h : okL xs = false) : swl xs = (ByteArray.empty, 2) := if_neg (by rw [h]; decide)
theorem swl_in {xs : List Int} (h : okL xs = true) : swl xs = if idxS xs < (allS xs).length then ((allS xs).getD (idxS xs) ByteArray.empty, 0) else (ByteArray.empty, 4) := if_pos h
theorem idxS_no {xs : List Int} {i : Nat} (h : i < idxS xs) : (ldsL ((allS xs).getD i ByteArray.empty) xs.length == xs) = false := by
  have hl : i < (allS xs).length := Nat.lt_of_lt_of_le h List.findIdx_le_length
  rw [List.getD_eq_getElem?_getD, List.getElem?_eq_getElem hl]
  have := List.not_of_lt_findIdx h
  simpa using this
theorem idxS_yes {xs : List Int} (h : idxS xs < (allS xs).length) : (ldsL ((allS xs).getD (idxS xs) ByteArray.empty) xs.length == xs) = true := by
  rw [List.getD_eq_getElem?_getD, List.getElem?_eq_getElem h]
  exact List.findIdx_getElem (w := h)

theorem noLoad_any (x : Int) (w : World) : Calls Tryd.prog 17 #[.int .i64 x] w fun e w' => e = .returned (.bool (!decide (0 ≤ x ∧ x < 16))) ∧ Below w.heap.size w w' := by
  have HR : Hid (∀ w, Calls Tryd.prog 19 #[.int .i64 4] w fun e w' => e = .returned (.int .i64 16) ∧ w = w') := fun w => rowCount_any 4 w (by decide) (by decide)
  by_cases h : 0 ≤ x ∧ x < 16
  · have HB := Lib.hid (fun w => isBelow_yes x 16 w h)
    rw [decide_eq_true h]
    clear h
    go_enter Tryd.func17, Tryd.ntmps17
    go_wp2_with (first | (go_at_call 19; (with_reducible refine (HR.out _).mono ?_); rintro e w' ⟨rfl, rfl⟩) | (go_at_call 18; (with_reducible refine (HB.out _).mono ?_); rintro e w' ⟨rfl, rfl⟩))
    go_ret
    exact ⟨rfl, Below.refl _ _⟩
  · have HB := Lib.hid (fun w => isBelow_no x 16 w h)
    rw [decide_eq_false h]
    clear h
    go_enter Tryd.func17, Tryd.ntmps17
    go_wp2_with (first | (go_at_call 19; (with_reducible refine (HR.out _).mono ?_); rintro e w' ⟨rfl, rfl⟩) | (go_at_call 18; (with_reducible refine (HB.out _).mono ?_); rintro e w' ⟨rfl, rfl⟩))
    go_ret
    exact ⟨rfl, Below.refl _ _⟩

theorem isSize4 (x : Int) (w : World) {b : Bool} (hb : decide (1 ≤ x ∧ x ≤ 4) = b) :
    Calls Tryd.prog 20 #[.int .i64 x, .int .i64 4] w fun e w' => e = .returned (.bool b) ∧ w = w' := by
  subst hb
  by_cases h1 : 1 ≤ x
  · have e : decide (1 ≤ x ∧ x ≤ 4) = decide (x ≤ 4) := by simp [h1]
    rw [e]
    go_enter Tryd.func20, Tryd.ntmps20
    go_wp2
    go_ret
    exact ⟨by simp, rfl⟩
  · have e : decide (1 ≤ x ∧ x ≤ 4) = false := decide_eq_false (fun h => h1 h.1)
    rw [e]
    go_enter Tryd.func20, Tryd.ntmps20
    go_wp2
    go_ret
    exact ⟨by simp; try omega, rfl⟩
theorem allIn4 (N : Nat) (w : World) (n1 : 1 ≤ N) (n4 : N ≤ 4) : Calls Tryd.prog 23 #[.int .i64 (N : Int)] w fun e w' => e = .returned (.int .i64 ((2 ^ N - 1 : Nat) : Int)) ∧ w = w' := by
  have := allInputs_any (N : Int) w (by omega) (by omega)
  rwa [Int.toNat_natCast] at this

set_option maxRecDepth 100000 in
set_option maxHeartbeats 2000000 in
theorem iSelectorWithLoads_any (v : Value) (xs : List Int) (w : World) (ha : Reads w v xs) :
    Calls Tryd.prog 7 #[v] w fun e w' => e = .returned (.tuple #[.string (resSelectorWithLoads_0 xs), .int .i64 (resSelectorWithLoads_1 xs)]) ∧ Below w.heap.size w w' := by
  unfold resSelectorWithLoads_0 resSelectorWithLoads_1
  have HA := Lib.hid (fun wx (hb : Below w.heap.size w wx) => ha.keep hb)
  have HCf := Lib.hid (fun (b : Bool) (hb : decide (∃ i, i < xs.length ∧ (!decide (0 ≤ xs.getD i 0 ∧ xs.getD i 0 < 16)) = true) = b) => containsFunc_any v xs 17 #[] (fun x => !decide (0 ≤ x ∧ x < 16)) w ha (fun x wx _ => noLoad_any x wx) (enters_of Tryd.func17 (by kernel_rfl) rfl) hb)
  obtain ⟨a, ca, rfl, hm, _⟩ := ha
  by_cases hn : 1 ≤ xs.length ∧ xs.length ≤ 4
  · have HSz := Lib.hid (fun w => isSize4 (xs.length : Int) w (b := true) (decide_eq_true (by omega)))
    by_cases hx : ∀ i, i < xs.length → 0 ≤ xs.getD i 0 ∧ xs.getD i 0 < 16
    · have hok : okL xs = true := decide_eq_true ⟨hn, hx⟩
      rw [swl_in hok]
      obtain ⟨R, hR⟩ : ∃ R, (if idxS xs < (allS xs).length then ((allS xs).getD (idxS xs) ByteArray.empty, (0 : Int)) else (ByteArray.empty, 4)) = R := ⟨_, rfl⟩
      have HRy : Hid (idxS xs < (allS xs).length → R = ((allS xs).getD (idxS xs) ByteArray.empty, 0)) := fun h => by rw [← hR, if_pos h]
      have HRn : Hid (¬ idxS xs < (allS xs).length → R = (ByteArray.empty, 4)) := fun h => by rw [← hR, if_neg h]
      rw [hR]
      clear hR
      have HC := Lib.hid (HCf.out false (decide_eq_false (by
        rintro ⟨i, hi, h⟩
        have := hx i hi
        rw [decide_eq_true this] at h; cases h)))
      have HIn := Lib.hid (fun w => allIn4 xs.length w hn.1 hn.2)
      have hL32 : 2 ^ xs.length - 1 < 32 := by
        have := pow5' (n := xs.length) (by omega); have := Nat.two_pow_pos xs.length; omega
      have HSel := Lib.hid (fun w => selectorsOf_any xs.length (2 ^ xs.length - 1) w hL32 (pc_full ⟨xs.length, by omega⟩) hn.2)
      have HNo := Lib.hid (fun i (h : i < idxS xs) => idxS_no h)
      have HYes : Hid (idxS xs < (allS xs).length → (ldsL ((allS xs).getD (idxS xs) ByteArray.empty) xs.length == xs) = true) := fun h => idxS_yes h
      have hjl : idxS xs ≤ (allS xs).length := List.findIdx_le_length
      have hal : (allS xs).length ≤ 576 := by
        unfold allS; rw [selL_len _ hL32 (pc_full ⟨xs.length, by omega⟩)]; exact cntS_le hn.2
      have HLd := Lib.hid (fun (s : ByteArray) w => selectorLoads_any xs.length s w (by omega))
      have HEq := Lib.hid (fun (s : ByteArray) (u : Value) (wx : World) (hu : Reads wx u (ldsL s xs.length)) (hb : Below w.heap.size w wx) (b : Bool) (h : (ldsL s xs.length == xs) = b) => equal_any u _ (ldsL s xs.length) xs wx hu (HA.out wx hb) (by unfold ldsL; rw [listF_len]) h)
      have hsl : selL xs.length (2 ^ xs.length - 1) = allS xs := rfl
      rw [hsl] at HSel
      generalize allS xs = l at *
      generalize idxS xs = j at *
      generalize ((2 ^ xs.length - 1 : Nat) : Int) = AI at *
      clear hsl hok hx hL32 HCf
      go_enter Tryd.func7, Tryd.ntmps7
      go_wp2_with (first | (go_at_call 20; (with_reducible refine (HSz.out _).mono ?_); rintro e w' ⟨rfl, rfl⟩) | (go_at_call 21; (with_reducible refine HC.out.mono ?_); rintro e w1 ⟨rfl, hL⟩) | (go_at_call 23; (with_reducible refine (HIn.out _).mono ?_); rintro e w' ⟨rfl, rfl⟩))
      refine (HSel.out _).mono ?_
      rintro e w2 ⟨q, rfl, hq, hb⟩
      replace hL := chain (B := w.heap.size) (a := w) hL (Nat.le_refl _) hb
      have hz2 := hL.size
      have HQ := Lib.hid (fun wx (hb : Below w2.heap.size w2 wx) => hq.rd.keep hb)
      obtain ⟨qa, qc, rfl, _⟩ := hq.rd
      obtain ⟨M, hM⟩ : ∃ M, l.length = M := ⟨_, rfl⟩
      have HMl := Lib.hid hM
      rw [hM] at hjl hal HYes HRy HRn ⊢
      clear hb hq hM
      go_wp2_with fail
      go_loopw [22] (fun c wr => ∃ k : Nat, k ≤ j ∧ c = .int .i64 (k : Int) ∧ Below w2.heap.size w2 wr) (fun c _ => M - (intOf c).toNat)
      case atStart => exact ⟨0, Nat.zero_le _, rfl, Below.refl _ _⟩
      case round =>
        obtain ⟨k, hk, rfl, hL2⟩ := hrel
        by_cases hlt : k < M
        · obtain ⟨qa', qc', ev, hcv⟩ := HQ.out wr hL2
          injection ev with ev1 ev2 ev3
          subst ev1
          obtain ⟨g, rfl, hca⟩ := hcv k (by rw [HMl.out]; exact hlt)
          have hi1 : (k : Int) < (M : Int) := by omega
          have hi0 : (0 : Int) ≤ (k : Int) := by omega
          have hLw := hL.trans (hL2.mono hz2)
          have hzw := hL2.size
          clear hcv ev2 ev3
          by_cases hkj : k < j
          · have hd := HNo.out k hkj
            generalize l.getD k ByteArray.empty = s at *
            have HLs := Lib.hid (fun w => HLd.out s w)
            have HEs := Lib.hid (fun u wx hu hb => HEq.out s u wx hu hb _ hd)
            generalize ldsL s xs.length = ys at *
            go_wp2_with fail
            refine (HLs.out _).mono ?_
            rintro e w3 ⟨u, rfl, hu, hb3⟩
            have hL3 := hL2.trans (hb3.mono hzw)
            have hW3 := hLw.trans (hb3.mono hLw.size)
            have hR3 := Lib.hid hu.reads
            obtain ⟨_, _, rfl, _⟩ := hu.reads
            clear hu hb3
            go_wp2_with (go_at_call 24; (with_reducible refine (HEs.out _ _ hR3.out hW3).mono ?_); rintro e w4 ⟨rfl, hb4⟩; have hL4 := chain (B := w2.heap.size) (a := w2) hL3 (Nat.le_refl _) hb4)
            exact ⟨⟨k + 1, by omega, by go_num, hL4⟩, by simp [intOf]; omega⟩
          · have e : k = j := by omega
            subst e
            have hd := HYes.out hlt
            obtain ⟨s, hs⟩ : ∃ s, l.getD k ByteArray.empty = s := ⟨_, rfl⟩
            rw [hs] at hd hca
            have HRR : Hid (R = (s, 0)) := by unfold Hid; rw [HRy.out hlt, hs]
            clear hs
            have HLs := Lib.hid (fun w => HLd.out s w)
            have HEs := Lib.hid (fun u wx hu hb => HEq.out s u wx hu hb _ hd)
            generalize ldsL s xs.length = ys at *
            go_wp2_with fail
            refine (HLs.out _).mono ?_
            rintro e w3 ⟨u, rfl, hu, hb3⟩
            have hW3 := hLw.trans (hb3.mono hLw.size)
            have hR3 := Lib.hid hu.reads
            obtain ⟨_, _, rfl, _⟩ := hu.reads
            clear hu hb3
            go_wp2_with (go_at_call 24; (with_reducible refine (HEs.out _ _ hR3.out hW3).mono ?_); rintro e w4 ⟨rfl, hb4⟩; have hL4 := chain (B := w.heap.size) (a := w) hW3 (Nat.le_refl _) hb4)
            go_ret2
            exact ⟨by rw [HRR.out]; rfl, hL4⟩
        · have hin : ¬ (k : Int) < (M : Int) := by omega
          have HRR : Hid (R = (ByteArray.empty, 4)) := HRn.out (by omega)
          go_wp2_with fail
          go_ret2
          exact ⟨by rw [HRR.out]; rfl, hL.trans (hL2.mono hz2)⟩
    · have hok : okL xs = false := decide_eq_false (fun h => hx h.2)
      rw [swl_out hok]
      have HC := Lib.hid (HCf.out true (decide_eq_true (by
        apply Classical.byContradiction
        intro hno
        apply hx
        intro i hi
        apply Classical.byContradiction
        intro hb
        exact hno ⟨i, hi, by rw [decide_eq_false hb]; rfl⟩)))
      clear hok hx HCf
      go_enter Tryd.func7, Tryd.ntmps7
      go_wp2_with (first | (go_at_call 20; (with_reducible refine (HSz.out _).mono ?_); rintro e w' ⟨rfl, rfl⟩) | (go_at_call 21; (with_reducible refine HC.out.mono ?_); rintro e w1 ⟨rfl, hL⟩))
      go_ret2
      exact ⟨rfl, hL⟩
  · have hok : okL xs = false := decide_eq_false (fun h => hn h.1)
    rw [swl_out hok]
    have HSz := Lib.hid (fun w => isSize4 (xs.length : Int) w (b := false) (decide_eq_false (by omega)))
    clear hok hn HCf
    go_enter Tryd.func7, Tryd.ntmps7
    go_wp2_with ((go_at_call 20; (with_reducible refine (HSz.out _).mono ?_); rintro e w' ⟨rfl, rfl⟩))
    go_ret2
    exact ⟨rfl, Below.refl _ _⟩

end Go.Proofs.YtkojdaafgbfioaaDoor
