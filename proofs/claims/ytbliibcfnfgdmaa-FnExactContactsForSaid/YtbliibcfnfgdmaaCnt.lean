/- ContactsFor: setOf, l09Needs, l09Count. -/
import Derived.Test.YtbliibcfnfgdmaaCnM
import Derived.Test.YtbliibcfnfgdmaaEnS
import Derived.Test.YtbliibcfnfgdmaaAsc
import Derived.Test.YtbliibcfnfgdmaaCo0
import Derived.Test.YtbliibcfnfgdmaaSl
namespace Go.Proofs.Ytbliibcfnfgdmaa
open Go.RowKit
set_option linter.unusedVariables false

def low32 (xs : List Int) : Prop := ∀ i, i < xs.length → 0 ≤ xs.getD i 0 ∧ xs.getD i 0 < 32

set_option maxRecDepth 100000 in
set_option maxHeartbeats 1000000 in
theorem setOf_or (v : Value) (xs : List Int) (w : World) (ha : Reads w v xs) (h : low32 xs) :
    Calls Try.prog 63 #[v] w fun e w' => e = .returned (.int .i64 ((orN xs xs.length : Nat) : Int)) ∧ w = w' := by
  obtain ⟨a, ca, rfl, hm, ha'⟩ := ha
  unfold maxLen at hm
  have Ha : Hid (∀ i, i < xs.length → ∃ b off, a = some ⟨b, off, none⟩ ∧ w.cell? ⟨b, off + i, none⟩ = some (.int .i64 (xs.getD i 0))) := by
    rcases ha' with rfl | ⟨b, off, rfl, ha'⟩
    · intro i hi; simp at hi
    · intro i hi; exact ⟨b, off, rfl, ha' i hi⟩
  have HX := Lib.hid h
  have HLt := Lib.hid (orN_lt h)
  clear ha' h
  obtain ⟨M, hM⟩ : ∃ M, xs.length = M := ⟨_, rfl⟩
  have HM := Lib.hid hM
  rw [hM] at Ha hm ⊢
  clear hM
  go_enter Try.func63, Try.ntmps63
  go_wp2_with fail
  go_loop [3, 8] (fun s c => ∃ k : Nat, k ≤ M ∧ c = .int .i64 (k : Int) ∧ s = .int .i64 ((orN xs k : Nat) : Int)) (fun _ c => M - (intOf c).toNat)
  case atStart => exact ⟨0, Nat.zero_le _, rfl, rfl⟩
  case round =>
    obtain ⟨k, hk, rfl, rfl⟩ := hrel
    by_cases hlt : k < M
    · obtain ⟨b, off, rfl, hca⟩ := Ha.out k hlt
      obtain ⟨x0, x1⟩ := HX.out k (by have := HM.out; omega)
      have hs := HLt.out k (by have := HM.out; omega)
      have HS : Hid (bits .or .i64 ((orN xs k : Nat) : Int) (wrap64 (2 ^ (xs.getD k 0).toNat)) = ((orN xs (k + 1) : Nat) : Int)) := or_walk _ _ (by omega) (by omega)
      have hi1 : (k : Int) < (M : Int) := by omega
      have hi0 : (0 : Int) ≤ (k : Int) := by omega
      generalize xs.getD k 0 = x at *
      generalize ((orN xs k : Nat) : Int) = S at *
      clear hs
      go_wp2_with fail
      rw [HS.out]
      exact ⟨⟨k + 1, by omega, by go_num, rfl⟩, by simp [intOf]; omega⟩
    · have e : k = M := by omega
      subst e
      go_wp2_with fail
      go_ret
      exact ⟨rfl, rfl⟩

set_option maxRecDepth 100000 in
set_option maxHeartbeats 1000000 in
theorem l09Needs_any (v : Value) (xs : List Int) (I O : Nat) (w : World) (ha : Reads w v xs) (h : low32 xs) (hI : I < 32) :
    Calls Try.prog 91 #[v, .int .i64 (I : Int), .int .i64 (O : Int)] w fun e w' => e = .returned (.bool (needsB xs I O)) ∧ w = w' := by
  obtain ⟨a, ca, rfl, hm, ha'⟩ := ha
  unfold maxLen at hm
  have Ha : Hid (∀ i, i < xs.length → ∃ b off, a = some ⟨b, off, none⟩ ∧ w.cell? ⟨b, off + i, none⟩ = some (.int .i64 (xs.getD i 0))) := by
    rcases ha' with rfl | ⟨b, off, rfl, ha'⟩
    · intro i hi; simp at hi
    · intro i hi; exact ⟨b, off, rfl, ha' i hi⟩
  obtain ⟨j, hj, hno, hyes⟩ := firstB (fun i => (xs.getD i 0).toNat &&& I == O) xs.length
  have hbit : ∀ i, i < xs.length → bits .and .i64 (xs.getD i 0) (I : Int) = (((xs.getD i 0).toNat &&& I : Nat) : Int) := fun i hi => by
    obtain ⟨x0, x1⟩ := h i hi
    obtain ⟨x, hx⟩ : ∃ x : Nat, xs.getD i 0 = (x : Int) := ⟨(xs.getD i 0).toNat, by omega⟩
    rw [hx, Int.toNat_natCast]
    exact i64_and x I (by omega) (by omega)
  have HNo : Hid (∀ i, i < j → (bits .and .i64 (xs.getD i 0) (I : Int) == (O : Int)) = false) := fun i hi => by
    have := hno i hi
    rw [hbit i (by omega), beq_eq_false_iff_ne]
    rw [beq_eq_false_iff_ne] at this; omega
  have HYes : Hid (j < xs.length → (bits .and .i64 (xs.getD j 0) (I : Int) == (O : Int)) = true) := fun hl => by
    have := hyes hl
    rw [hbit j hl, beq_iff_eq]
    rw [beq_iff_eq] at this; omega
  have hres : needsB xs I O = decide (j < xs.length) := by
    unfold needsB
    rcases Nat.lt_or_ge j xs.length with hl | hl
    · rw [decide_eq_true hl, List.any_eq_true]
      refine ⟨xs.getD j 0, ?_, hyes hl⟩
      rw [List.getD_eq_getElem?_getD, List.getElem?_eq_getElem hl]; exact List.getElem_mem hl
    · rw [decide_eq_false (by omega), List.any_eq_false]
      intro x hx
      obtain ⟨i, hi, rfl⟩ := List.getElem_of_mem hx
      have := hno i (by omega)
      rw [List.getD_eq_getElem?_getD, List.getElem?_eq_getElem hi] at this
      simpa using this
  have HR := Lib.hid hres
  clear ha' h hno hyes hbit hres
  generalize xs.length = M at *
  generalize (I : Int) = Ii at *
  generalize (O : Int) = Oi at *
  go_enter Try.func91, Try.ntmps91
  go_wp2_with fail
  go_loop [10] (fun c => ∃ k : Nat, k ≤ j ∧ c = .int .i64 (k : Int)) (fun c => M - (intOf c).toNat)
  case atStart => exact ⟨0, Nat.zero_le _, rfl⟩
  case round =>
    obtain ⟨k, hk, rfl⟩ := hrel
    by_cases hlt : k < M
    · obtain ⟨b, off, rfl, hca⟩ := Ha.out k hlt
      have hi1 : (k : Int) < (M : Int) := by omega
      have hi0 : (0 : Int) ≤ (k : Int) := by omega
      by_cases hkj : k < j
      · have hd := HNo.out k hkj
        generalize xs.getD k 0 = y at *
        go_wp2_with fail
        go_round
        case rel => exact ⟨k + 1, by omega, by go_num⟩
        case measure => simp [intOf]; omega
      · have e : k = j := by omega
        subst e
        have hd := HYes.out hlt
        have HR2 : Hid (needsB xs I O = true) := by unfold Hid; rw [HR.out, decide_eq_true hlt]
        generalize xs.getD k 0 = y at *
        go_wp2_with fail
        go_ret
        exact ⟨by rw [HR2.out]; rfl, rfl⟩
    · have HR2 : Hid (needsB xs I O = false) := by unfold Hid; rw [HR.out, decide_eq_false (by omega)]
      have hi1 : ¬ (k : Int) < (M : Int) := by omega
      go_wp2_with fail
      go_ret
      exact ⟨by rw [HR2.out]; rfl, rfl⟩

theorem ret_i64 {a b : Int} (h : a = b) : Ending.returned (.int .i64 a) = .returned (.int .i64 b) := by rw [h]

set_option maxRecDepth 100000 in
set_option maxHeartbeats 4000000 in
theorem l09Count_any (xs : List Int) (h : low32 xs) : ∀ (m L I O : Nat) (u : ByteArray) (v : Value) (w : World), SelU m L u → m ≤ 5 → I < 32 → O < 32 → Reads w v xs →
    Calls Try.prog 60 #[.string u, v, .int .i64 (I : Int), .int .i64 (O : Int)] w fun e w' => e = .returned (.int .i64 ((cntU m u xs I O : Nat) : Int)) ∧ Below w.heap.size w w' := by
  intro m
  induction m with
  | zero =>
    intro L I O u v w hu hm hI hO ha
    have e := hu.leaf
    subst e
    have HZ : Hid (((cntU 0 ⟨#[46]⟩ xs I O : Nat) : Int) = 0) := rfl
    rw [HZ.out]
    obtain ⟨a, ca, rfl, _, _⟩ := ha
    clear hu
    go_enter Try.func60, Try.ntmps60
    go_wp2
    go_ret
    exact ⟨rfl, by go_grown⟩
  | succ m ih =>
    intro L I O u v w hu hm hI hO ha
    obtain ⟨⟨b0, b1, hd, hde⟩, hbit, hlo, hhi⟩ := hu.fork
    have hsz : 0 < u.size := by rw [hu.1]; exact lenT_pos _
    have hby := byteAt_eq u 0 hsz
    have hlp := lenT_pos m
    have hne : (u.toList == [46]) = false := by
      have h2 : u.size = u.toList.length := by rw [Lib.toList_data, Array.length_toList]; rfl
      cases hx : (u.toList == [46])
      · rfl
      · have h3 : u.toList = [46] := by simpa using hx
        have h4 : u.size = 1 := by rw [h2, h3]; rfl
        have h5 := hu.1
        rw [lenT_succ] at h5; omega
    have HS := Lib.hid (fun w => l09Sides_any u m w hu.1 (by omega))
    obtain ⟨d, hdd⟩ : ∃ d, dgt u 0 = d := ⟨_, rfl⟩
    have HV : Hid (cntU (m + 1) u xs I O = if needsB xs I O = true then cntU m (loU m u) xs (I ||| 2 ^ d) O + cntU m (hiU m u) xs (I ||| 2 ^ d) (O ||| 2 ^ d) + (if needsB xs (I ||| 2 ^ d) O = true then 1 else 0) + (if needsB xs (I ||| 2 ^ d) (O ||| 2 ^ d) = true then 1 else 0) else 0) := by rw [← hdd]; exact cntU_succ m u xs I O
    rw [hdd] at hde hd
    have hw8 : ((u[0].toNat : Int) - 48) % 256 = (d : Int) := by
      rw [hde, ← hby]; omega
    have hI2 := or_lt32 hI hd
    have hO2 := or_lt32 hO hd
    have HN0 := Lib.hid (fun w (ha : Reads w v xs) => l09Needs_any v xs I O w ha h hI)
    have HN1 := Lib.hid (fun w (ha : Reads w v xs) => l09Needs_any v xs (I ||| 2 ^ d) O w ha h hI2)
    have HN2 := Lib.hid (fun w (ha : Reads w v xs) => l09Needs_any v xs (I ||| 2 ^ d) (O ||| 2 ^ d) w ha h hI2)
    have HC0 := Lib.hid (fun w (ha : Reads w v xs) => ih _ (I ||| 2 ^ d) O (loU m u) v w hlo (by omega) hI2 hO ha)
    have HC1 := Lib.hid (fun w (ha : Reads w v xs) => ih _ (I ||| 2 ^ d) (O ||| 2 ^ d) (hiU m u) v w hhi (by omega) hI2 hO2 ha)
    have hb0 : cntU m (loU m u) xs (I ||| 2 ^ d) O ≤ 63 := by have := cntU_le m (loU m u) xs (I ||| 2 ^ d) O; have := lenT_le (m := m) (by omega); omega
    have hb1 : cntU m (hiU m u) xs (I ||| 2 ^ d) (O ||| 2 ^ d) ≤ 63 := by have := cntU_le m (hiU m u) xs (I ||| 2 ^ d) (O ||| 2 ^ d); have := lenT_le (m := m) (by omega); omega
    have HoI : Hid (bits .or .i64 (I : Int) (wrap64 (2 ^ d)) = ((I ||| 2 ^ d : Nat) : Int)) := or_walk I d (by omega) (by omega)
    have HoO : Hid (bits .or .i64 (O : Int) (wrap64 (2 ^ d)) = ((O ||| 2 ^ d : Nat) : Int)) := or_walk O d (by omega) (by omega)
    have HA := Lib.hid (fun wx (hb : Below w.heap.size w wx) => ha.keep hb)
    obtain ⟨a, ca, rfl, _, _⟩ := ha
    rw [← HoI.out] at HC0 HC1 HN1 HN2
    rw [← HoO.out] at HC1 HN2
    clear hdd hde hby b0 b1 hbit hlo hhi hu ih hlp
    cases hn : needsB xs I O
    · rw [hn] at HN0
      have HV2 : Hid (((cntU (m + 1) u xs I O : Nat) : Int) = 0) := by unfold Hid; rw [HV.out, hn]; rfl
      clear HV hn
      go_enter Try.func60, Try.ntmps60
      go_wp2_with (go_at_call 91; (with_reducible refine (HN0.out _ (HA.out _ (Below.refl _ _))).mono ?_); rintro e w1 ⟨rfl, rfl⟩)
      go_ret
      exact ⟨by rw [HV2.out]; rfl, Below.refl _ _⟩
    · rw [hn] at HN0
      have HV2 : Hid (cntU (m + 1) u xs I O = cntU m (loU m u) xs (I ||| 2 ^ d) O + cntU m (hiU m u) xs (I ||| 2 ^ d) (O ||| 2 ^ d) + (if needsB xs (I ||| 2 ^ d) O = true then 1 else 0) + (if needsB xs (I ||| 2 ^ d) (O ||| 2 ^ d) = true then 1 else 0)) := by unfold Hid; rw [HV.out, hn]; rfl
      clear HV hn
      generalize cntU m (loU m u) xs (I ||| 2 ^ d) O = X at *
      generalize cntU m (hiU m u) xs (I ||| 2 ^ d) (O ||| 2 ^ d) = Y at *
      generalize needsB xs (I ||| 2 ^ d) O = n1 at *
      generalize needsB xs (I ||| 2 ^ d) (O ||| 2 ^ d) = n2 at *
      rw [HV2.out]
      generalize loU m u = lo at *
      generalize hiU m u = hi at *
      have HXY : Hid (∀ z : Nat, ((X + Y + z : Nat) : Int) = (X : Int) + (Y : Int) + (z : Int)) := fun z => by omega
      have hX1 : (X : Int) ≤ 63 := by omega
      have hY1 : (Y : Int) ≤ 63 := by omega
      have hX0 : 0 ≤ (X : Int) := by omega
      have hY0 : 0 ≤ (Y : Int) := by omega
      obtain ⟨Z, hZ⟩ : ∃ Z : Int, ((X + Y + (if n1 = true then 1 else 0) + (if n2 = true then 1 else 0) : Nat) : Int) = Z := ⟨_, rfl⟩
      have HZ : Hid (Z = (X : Int) + (Y : Int) + (if n1 = true then 1 else 0) + (if n2 = true then 1 else 0)) := by
        unfold Hid; rw [← hZ]; cases n1 <;> cases n2 <;> simp
      rw [hZ]
      clear hZ
      generalize (X : Int) = Xi at *
      generalize (Y : Int) = Yi at *
      clear HV2 HXY hb0 hb1
      cases n1 <;> cases n2
      all_goals
        go_enter Try.func60, Try.ntmps60
        go_wp2_with (first | (go_at_call 91; (with_reducible refine (HN0.out _ (HA.out _ (Below.refl _ _))).mono ?_); rintro e w1 ⟨rfl, rfl⟩) | (go_at_call 88; (with_reducible refine (HS.out _).mono ?_); rintro e w1 ⟨rfl, hL⟩) | (go_at_call 60; (with_reducible refine (HC0.out _ (HA.out _ (by exact hL))).mono ?_); rintro e w2 ⟨rfl, hb⟩; replace hL := chain (B := w.heap.size) (a := w) hL (Nat.le_refl _) hb; clear hb) | (go_at_call 60; (with_reducible refine (HC1.out _ (HA.out _ (by exact hL))).mono ?_); rintro e w3 ⟨rfl, hb⟩; replace hL := chain (B := w.heap.size) (a := w) hL (Nat.le_refl _) hb; clear hb) | (go_at_call 91; (with_reducible refine (HN1.out _ (HA.out _ (by exact hL))).mono ?_); rintro e w4 ⟨rfl, rfl⟩) | (go_at_call 91; (with_reducible refine (HN2.out _ (HA.out _ (by exact hL))).mono ?_); rintro e w5 ⟨rfl, rfl⟩))
        go_ret
        exact ⟨ret_i64 (by rw [HZ.out]; simp), hL⟩

end Go.Proofs.Ytbliibcfnfgdmaa
