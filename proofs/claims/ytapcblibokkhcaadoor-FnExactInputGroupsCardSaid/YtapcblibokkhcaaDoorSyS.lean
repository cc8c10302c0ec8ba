/- IsSymmetric: the model's. -/
import Derived.Test.YtapcblibokkhcaaDoorAlB
import Derived.Test.YtapcblibokkhcaaDoorSSym
import Derived.Test.YtapcblibokkhcaaDoorPolM
import Derived.Test.YtapcblibokkhcaaDoorOwn
import Derived.Test.YtapcblibokkhcaaDoorCo0
import Derived.Test.YtapcblibokkhcaaDoorSyR
namespace Go.Proofs.YtapcblibokkhcaaDoor
open Go.RowKit
set_option linter.unusedVariables false

theorem ownsM_cell {w : World} {base b cap N : Nat} {xs : List Int} (h : Owns w base (.slice (some ⟨b, 0, none⟩) N cap) xs) (hl : xs.length = N) (k : Nat) (hk : k < N) : w.cell? ⟨b, k, none⟩ = some (.int .i64 (xs.getD k 0)) ∧ w.frozen? ⟨b, k, none⟩ = false := by
  subst hl
  refine ⟨?_, World.ownsRow.frozenAt h k⟩
  have := World.ownsRow.cellAt h k (by omega)
  rw [this]
  simp [hk, List.getD_eq_getElem?_getD]
theorem ownsM_store {w : World} {base b cap N : Nat} {xs : List Int} (h : Owns w base (.slice (some ⟨b, 0, none⟩) N cap) xs) (hl : xs.length = N) (k : Nat) (x : Int) : Owns (w.setCell ⟨b, k, none⟩ (.int .i64 x)) base (.slice (some ⟨b, 0, none⟩) N cap) (xs.set k x) := by
  subst hl
  have := (World.ownsRow.stored h k (.int .i64 x)).1
  rw [← List.map_set] at this
  unfold Owns
  rw [List.length_set]
  exact this
theorem made_zeroM (m : Nat) : (madeCells (Value.int .i64 0).cells (m * 1)).toList = (listF m (fun _ => 0)).map (Value.int .i64) := by
  simp only [madeCells, Value.cells, Nat.mul_one]
  apply List.ext_getElem
  · simp [listF]
  · intro i h1 h2
    simp [listF, Nat.mod_one]
theorem ones_low : ∀ k : Fin 32, 2 ^ onesN k.val - 1 ≤ k.val := by decide +kernel
theorem ones_first : ∀ a : Fin 6, onesN (2 ^ a.val - 1) = a.val := by decide +kernel
/-- the first values as the loop has them after r rows: -1 for a number of ones that is not met yet -/
def firstF (v : Int) (r a : Nat) : Int := if 2 ^ a - 1 < r then (dig v.toNat (2 ^ a - 1) : Int) else -1
def fillF (k a : Nat) : Int := if a < k then -1 else 0
theorem fill_step (M k : Nat) (hk : k < M) : (listF M (fillF k)).set k (-1) = listF M (fillF (k + 1)) := by
  rw [listF_set _ _ _ _ hk]
  refine listF_congr fun a ha => ?_
  unfold fillF
  by_cases h : a = k
  · subst h; rw [if_pos rfl, if_pos (by omega)]
  · rw [if_neg h]
    by_cases h2 : a < k
    · rw [if_pos h2, if_pos (by omega)]
    · rw [if_neg h2, if_neg (by omega)]
theorem fill_all (v : Int) (M : Nat) : listF M (fillF M) = listF M (firstF v 0) := by
  refine listF_congr fun a ha => ?_
  unfold fillF firstF
  rw [if_pos ha, if_neg (by omega)]
theorem first_same (v : Int) {k N : Nat} (hk : k < 32) (hN : N ≤ 5) (h : 2 ^ onesN k - 1 < k) : listF (N + 1) (firstF v (k + 1)) = listF (N + 1) (firstF v k) := by
  refine listF_congr fun a ha => ?_
  unfold firstF
  by_cases h1 : 2 ^ a - 1 < k
  · rw [if_pos h1, if_pos (by omega)]
  · by_cases h2 : 2 ^ a - 1 = k
    · have := ones_first ⟨a, by omega⟩
      simp only at this
      rw [h2] at this
      rw [this] at h; omega
    · rw [if_neg h1, if_neg (by omega)]
theorem first_new (v : Int) {k N : Nat} (hk : k < 32) (hN : N ≤ 5) (hkN : onesN k < N + 1) (h : 2 ^ onesN k - 1 = k) : listF (N + 1) (firstF v (k + 1)) = (listF (N + 1) (firstF v k)).set (onesN k) (dig v.toNat k : Int) := by
  rw [listF_set _ _ _ _ hkN]
  refine listF_congr fun a ha => ?_
  unfold firstF
  by_cases e : a = onesN k
  · subst e; rw [if_pos rfl, if_pos (by omega), h]
  · rw [if_neg e]
    by_cases h1 : 2 ^ a - 1 < k
    · rw [if_pos h1, if_pos (by omega)]
    · have : 2 ^ a - 1 ≠ k := fun h2 => by
        have := ones_first ⟨a, by omega⟩
        simp only at this
        rw [h2] at this
        exact e this.symm
      rw [if_neg h1, if_neg (by omega)]

set_option maxRecDepth 100000 in
set_option maxHeartbeats 4000000 in
theorem l03Symmetric_any (v : Int) (N : Nat) (w : World) (n1 : 1 ≤ N) (n5 : N ≤ 5) (h0 : 0 ≤ v) (hv : v < 9223372036854775808) {b : Bool} (hb : symB v N = b) :
    Calls Tryd.prog 31 #[.agg #[.int .i64 (N : Int), .int .i64 v]] w fun e w' => e = .returned (.bool b) ∧ Below w.heap.size w w' := by
  obtain ⟨i0, hi, hz0, hz1, hz2⟩ := info_parts info64
  have k0 := C2.here w (.int .i64 (N : Int)) (.int .i64 v) 26
  obtain ⟨j, hj, hno, hyes⟩ := firstB (fun r => dig v.toNat r != dig v.toNat (2 ^ onesN r - 1)) (2 ^ N)
  have HB : Hid (b = decide (j = 2 ^ N)) := by
    rw [Hid, ← hb]
    unfold symB
    rw [Bool.eq_iff_iff, decide_eq_true_iff, decide_eq_true_iff]
    constructor
    · intro h
      rcases Nat.lt_or_ge j (2 ^ N) with h' | h'
      · have := hyes h'
        rw [h j h'] at this
        simp at this
      · omega
    · intro h k hk
      have := hno k (by omega)
      simpa using this
  have HNo := Lib.hid hno
  have HYes := Lib.hid hyes
  have Hr : Hid (rcZ (N : Int) = ((2 ^ N : Nat) : Int)) := by unfold Hid rcZ; rw [Int.toNat_natCast]
  have hr := rcZ_bd (n := (N : Int)) (by omega) (by omega)
  obtain ⟨P, hP⟩ : ∃ P, N + 1 = P := ⟨_, rfl⟩
  have HP := Lib.hid hP
  have hZ : (N : Int) + 1 = (P : Int) := by omega
  have hP6 : P ≤ 6 := by omega
  obtain ⟨M, hM⟩ : ∃ M, 2 ^ N = M := ⟨_, rfl⟩
  have HM := Lib.hid hM
  have HRW := Lib.hid (fun w => l01Rows_any (N : Int) w (by omega) (by omega))
  rw [hM] at hj HB HYes Hr
  clear hb hno hyes hM
  go_enter Tryd.func31, Tryd.ntmps31
  go_wp2_with (at_make; (refine wpList_make_full _ rfl _ _ 31 rfl (w.heap.size + 1) 2 i0 (.int .i64 0) 1 Tryd.underlying31 hi hz0 hz1 .i64 .i64 (P : Int) (P : Int) P rfl rfl rfl rfl (by rw [hz2]; omega) (by unfold maxLen; omega) (by simp) ?_); intro w1 oo hg; replace k0 := k0.grown hg (by simp); have hL : Below w.heap.size w w1 := Below.grown ((Below.refl _ w).alloc (Nat.le_refl _) _) hg (by simp) (by simp))
  have oo1 : Owns w1 (w.heap.size + 1) (.slice (some ⟨w.heap.size + 1, 0, none⟩) P P) (listF P (fillF 0)) := by
    unfold Owns
    rw [listF_len]
    rw [made_zeroM] at oo
    have e : listF P (fillF 0) = listF P (fun _ => 0) := listF_congr fun a _ => by unfold fillF; rw [if_neg (by omega)]
    rw [e]
    simpa using oo
  clear oo hg hi hz0 hz1 hz2 hZ hP
  go_loopw [13] (fun c wr => ∃ k : Nat, k ≤ P ∧ c = .int .i64 (k : Int) ∧ Below w.heap.size w wr ∧ C2 wr w.heap.size (.int .i64 (N : Int)) (.int .i64 v) ∧ Owns wr (w.heap.size + 1) (.slice (some ⟨w.heap.size + 1, 0, none⟩) P P) (listF P (fillF k))) (fun c _ => P - (intOf c).toNat)
  case atStart => exact ⟨0, Nat.zero_le _, rfl, hL, k0, oo1⟩
  case round =>
    clear k0 oo1 hL
    obtain ⟨k, hk, rfl, hL, k0, oo⟩ := hrel
    by_cases hlt : k < P
    · have hcc := ownsM_cell oo (listF_len _ _) k hlt
      obtain ⟨hc, hf⟩ := hcc
      have HS := Lib.hid (ownsM_store oo (listF_len _ _) k (-1))
      have HF := Lib.hid (fill_step P k hlt)
      have hi0 : (0 : Int) ≤ (k : Int) := by omega
      have hi1 : (k : Int) < (P : Int) := by omega
      clear oo
      go_wp2_with fail
      exact ⟨⟨k + 1, by omega, by go_num, hL.setCell (p := ⟨w.heap.size + 1, k, none⟩) (by simp) _, k0.set _ _ _ (by omega), by rw [← HF.out]; exact HS.out⟩, by simp [intOf]; omega⟩
    · have e : k = P := by omega
      rw [e, fill_all v] at oo
      clear e
      have hng : ¬ (k : Int) < (P : Int) := by omega
      have hLo := hL
      have koo := k0
      have ooo := oo
      clear hL k0 oo hk hlt
      obtain ⟨wo, hwo⟩ : ∃ wo : World, wo = wr := ⟨_, rfl⟩
      subst hwo
      go_wp2_with fail
      go_loopw [5] (fun c wr => ∃ k : Nat, k ≤ j ∧ c = .int .i64 (k : Int) ∧ Below w.heap.size w wr ∧ C2 wr w.heap.size (.int .i64 (N : Int)) (.int .i64 v) ∧ Owns wr (w.heap.size + 1) (.slice (some ⟨w.heap.size + 1, 0, none⟩) P P) (listF P (firstF v k))) (fun c _ => M - (intOf c).toNat)
      case atStart => exact ⟨0, Nat.zero_le _, rfl, hLo, koo, ooo⟩
      case round =>
        clear koo ooo hLo
        obtain ⟨k, hk, rfl, hL, k0, oo⟩ := hrel
        by_cases hlt : (k : Int) < rcZ (N : Int)
        · have hk32 : k < 32 := by omega
          have hkM : k < M := by have := Hr.out; omega
          obtain ⟨K, hK⟩ : ∃ K, onesN k = K := ⟨_, rfl⟩
          have hKN : K < P := by have := HP.out; have := onesN_bd n5 (show k < 2 ^ N by rw [HM.out]; exact hkM); omega
          have hlow : 2 ^ K - 1 ≤ k := by rw [← hK]; exact ones_low ⟨k, hk32⟩
          have HO := Lib.hid (fun w => l03Ones_any k w hk32)
          have HK62 : Hid ((0 : Int) ≤ k ∧ (k : Int) ≤ 62) := by unfold Hid; omega
          have hcc := ownsM_cell oo (listF_len _ _) K hKN
          rw [listF_get _ _ _ hKN] at hcc
          obtain ⟨hc, hf⟩ := hcc
          have hK0 : (0 : Int) ≤ (K : Int) := by omega
          have hK1 : (K : Int) < (P : Int) := by omega
          have hKd : digZ v (k : Int) = (dig v.toNat k : Int) := by unfold digZ; rw [Int.toNat_natCast]
          have HA := Lib.hid (fun w => l01At_any (N : Int) v (k : Int) w h0 hv HK62.out.1 HK62.out.2)
          have hzk := k0.2.2.2.2
          rw [hK] at HO
          by_cases hseen : 2 ^ K - 1 < k
          · have HS : Hid (listF P (firstF v (k + 1)) = listF P (firstF v k)) := by have := first_same v hk32 n5 (by rw [hK]; exact hseen); rw [HP.out] at this; exact this
            have hval : firstF v k K = (dig v.toNat (2 ^ K - 1) : Int) := if_pos hseen
            rw [hval] at hc
            have hd0 : ¬ (dig v.toNat (2 ^ K - 1) : Int) < 0 := by omega
            by_cases hkj : k < j
            · have hsame := HNo.out k hkj
              rw [hK] at hsame
              have hq : ((dig v.toNat (2 ^ K - 1) : Int) != digZ v (k : Int)) = false := by rw [hKd]; simp at hsame ⊢; omega
              have hq2 : (!((dig v.toNat (2 ^ K - 1) : Int) == digZ v (k : Int))) = false := hq
              have HOO := Lib.hid oo
              clear hK hKd hval hsame HNo HYes hf oo hlow hseen
              generalize (dig v.toNat (2 ^ K - 1) : Int) = D at *
              generalize digZ v (k : Int) = Y at *
              go_upto_region 13 with (first | (go_at_call 42; (with_reducible refine (HRW.out _).mono ?_); rintro e w' ⟨rfl, rfl⟩) | (go_at_call 52; (with_reducible refine (HO.out _).mono ?_); rintro e w' ⟨rfl, rfl⟩))
              go_cut [47] (fun s wx => s = .bool false ∧ Below w.heap.size w wx ∧ C2 wx w.heap.size (.int .i64 (N : Int)) (.int .i64 v) ∧ Owns wx (w.heap.size + 1) (.slice (some ⟨w.heap.size + 1, 0, none⟩) P P) (listF P (firstF v k)))
              case first =>
                go_region_held3 (fun wx => C2 wx w.heap.size (.int .i64 (N : Int)) (.int .i64 v) ∧ wx.cell? ⟨w.heap.size + 1, K, none⟩ = some (.int .i64 D)) (exact ⟨k0, hc⟩) ((go_at_call 43; (with_reducible refine (HA.out _).mono ?_); rintro e w3 ⟨rfl, hb⟩; have hL := chain (B := w.heap.size) (a := w) (by first | exact hL | go_grown) (Nat.le_refl _) hb; replace k0 := keepAt hb (show C2 _ w.heap.size (.int .i64 (N : Int)) (.int .i64 v) from k0); replace hc := cell_later hb hc; have HOO := Lib.hid (ownsKeepAt hb HOO.out); clear hb))
                all_goals (go_wp2_with fail; go_meet; exact ⟨rfl, hL, k0, HOO.out⟩)
              case rest =>
              obtain ⟨rfl, hL, k0, oo⟩ := hcut
              go_wp2_with fail
              exact ⟨⟨k + 1, by omega, by go_num, hL, k0, by rw [HS.out]; exact oo⟩, by simp [intOf]; omega⟩
            · have e : k = j := by omega
              have hdif := HYes.out (by omega)
              rw [← e, hK] at hdif
              have hq : ((dig v.toNat (2 ^ K - 1) : Int) != digZ v (k : Int)) = true := by rw [hKd]; simp at hdif ⊢; omega
              have hq2 : (!((dig v.toNat (2 ^ K - 1) : Int) == digZ v (k : Int))) = true := hq
              have HB2 : Hid (b = false) := by rw [Hid, HB.out]; exact decide_eq_false (by omega)
              have HOO := Lib.hid oo
              clear hK hKd hval hdif HNo HYes hf oo hlow hseen e
              generalize (dig v.toNat (2 ^ K - 1) : Int) = D at *
              generalize digZ v (k : Int) = Y at *
              go_upto_region 13 with (first | (go_at_call 42; (with_reducible refine (HRW.out _).mono ?_); rintro e w' ⟨rfl, rfl⟩) | (go_at_call 52; (with_reducible refine (HO.out _).mono ?_); rintro e w' ⟨rfl, rfl⟩))
              go_cut [47] (fun s wx => s = .bool true ∧ Below w.heap.size w wx ∧ C2 wx w.heap.size (.int .i64 (N : Int)) (.int .i64 v) ∧ Owns wx (w.heap.size + 1) (.slice (some ⟨w.heap.size + 1, 0, none⟩) P P) (listF P (firstF v k)))
              case first =>
                go_region_held3 (fun wx => C2 wx w.heap.size (.int .i64 (N : Int)) (.int .i64 v) ∧ wx.cell? ⟨w.heap.size + 1, K, none⟩ = some (.int .i64 D)) (exact ⟨k0, hc⟩) ((go_at_call 43; (with_reducible refine (HA.out _).mono ?_); rintro e w3 ⟨rfl, hb⟩; have hL := chain (B := w.heap.size) (a := w) (by first | exact hL | go_grown) (Nat.le_refl _) hb; replace k0 := keepAt hb (show C2 _ w.heap.size (.int .i64 (N : Int)) (.int .i64 v) from k0); replace hc := cell_later hb hc; have HOO := Lib.hid (ownsKeepAt hb HOO.out); clear hb))
                all_goals (go_wp2_with fail; go_meet; exact ⟨rfl, hL, k0, HOO.out⟩)
              case rest =>
              obtain ⟨rfl, hL, k0, oo⟩ := hcut
              go_wp2_with fail
              go_ret
              exact ⟨by rw [HB2.out]; rfl, hL⟩
          · have hkk : 2 ^ K - 1 = k := by omega
            have HS : Hid (listF P (firstF v (k + 1)) = (listF P (firstF v k)).set K (dig v.toNat k : Int)) := by have := first_new v hk32 n5 (by rw [hK, HP.out]; exact hKN) (by rw [hK]; exact hkk); rw [HP.out, hK] at this; exact this
            have hkj : k < j := by
              rcases Nat.lt_or_ge k j with h | h
              · exact h
              · have e : k = j := by omega
                have hdif := HYes.out (by omega)
                rw [← e, hK, hkk] at hdif
                simp at hdif
            have hval : firstF v k K = -1 := if_neg hseen
            rw [hval] at hc
            have hq : (digZ v (k : Int) != digZ v (k : Int)) = false := by simp
            have hq2 : (!(digZ v (k : Int) == digZ v (k : Int))) = false := hq
            rw [← hKd] at HS
            have HST := Lib.hid (fun (wx : World) (h : Owns wx (w.heap.size + 1) (.slice (some ⟨w.heap.size + 1, 0, none⟩) P P) (listF P (firstF v k))) => ownsM_store h (listF_len _ _) K (digZ v (k : Int)))
            have HOO := Lib.hid oo
            clear hK hKd hval HNo HYes oo hlow hseen hkk
            generalize digZ v (k : Int) = D at *
            go_upto_region 13 with (first | (go_at_call 42; (with_reducible refine (HRW.out _).mono ?_); rintro e w' ⟨rfl, rfl⟩) | (go_at_call 52; (with_reducible refine (HO.out _).mono ?_); rintro e w' ⟨rfl, rfl⟩) | (go_at_call 43; (with_reducible refine (HA.out _).mono ?_); rintro e w3 ⟨rfl, hb⟩; have hL := chain (B := w.heap.size) (a := w) (by first | exact hL | go_grown) (Nat.le_refl _) hb; replace k0 := keepAt hb k0; have hf3 := (hb.frozen (p := ⟨w.heap.size + 1, K, none⟩) (World.block_lt_of_cell? _ _ hc)).trans hf; have hc3 := cell_later hb hc; have HO3 := Lib.hid (ownsKeepAt hb HOO.out); clear hb))
            have hL4 := hL.setCell (p := ⟨w.heap.size + 1, K, none⟩) (by simp) (.int .i64 D)
            have k04 := k0.set (w.heap.size + 1) K (.int .i64 D) (by omega)
            have HO4 := Lib.hid (HST.out _ HO3.out)
            have hc4 : (w3.setCell ⟨w.heap.size + 1, K, none⟩ (.int .i64 D)).cell? ⟨w.heap.size + 1, K, none⟩ = some (.int .i64 D) := World.cell?_setCell_same _ _ _ hc3
            clear hL k0 hc hc3 hf hf3 HOO HO3 HST
            generalize w3.setCell ⟨w.heap.size + 1, K, none⟩ (.int .i64 D) = w4 at *
            have hL := hL4
            have k0 := k04
            have hc := hc4
            have HOO := HO4
            clear hL4 k04 hc4 HO4
            go_cut [47] (fun s wx => s = .bool false ∧ Below w.heap.size w wx ∧ C2 wx w.heap.size (.int .i64 (N : Int)) (.int .i64 v) ∧ Owns wx (w.heap.size + 1) (.slice (some ⟨w.heap.size + 1, 0, none⟩) P P) ((listF P (firstF v k)).set K D))
            case first =>
              go_region_held3 (fun wx => C2 wx w.heap.size (.int .i64 (N : Int)) (.int .i64 v) ∧ wx.cell? ⟨w.heap.size + 1, K, none⟩ = some (.int .i64 D)) (exact ⟨k0, hc⟩) ((go_at_call 43; (with_reducible refine (HA.out _).mono ?_); rintro e w5 ⟨rfl, hb⟩; have hL := chain (B := w.heap.size) (a := w) (by first | exact hL | go_grown) (Nat.le_refl _) hb; replace k0 := keepAt hb (show C2 _ w.heap.size (.int .i64 (N : Int)) (.int .i64 v) from k0); replace hc := cell_later hb hc; have HOO := Lib.hid (ownsKeepAt hb HOO.out); clear hb))
              all_goals (go_wp2_with fail; go_meet; exact ⟨rfl, hL, k0, HOO.out⟩)
            case rest =>
            obtain ⟨rfl, hL, k0, oo⟩ := hcut
            go_wp2_with fail
            exact ⟨⟨k + 1, by omega, by go_num, hL, k0, by rw [HS.out]; exact oo⟩, by simp [intOf]; omega⟩
        · have e : k = M := by have := Hr.out; omega
          have HB2 : Hid (b = true) := by rw [Hid, HB.out]; exact decide_eq_true (by omega)
          clear e
          go_wp2_with ((go_at_call 42; (with_reducible refine (HRW.out _).mono ?_); rintro e w' ⟨rfl, rfl⟩))
          go_ret
          exact ⟨by rw [HB2.out]; rfl, hL⟩

set_option maxHeartbeats 1000000 in
theorem sIsSymmetric_any (n v : Int) (w : World) :
    Calls Tryd.prog 11 #[.agg #[.int .i64 n, .int .i64 v]] w fun e w' => e = .returned (.tuple #[.bool (resIsSymmetric_0 n v), .int .i64 (resIsSymmetric_1 n v)]) ∧ Below w.heap.size w w' := by
  have k0 : C2 (w.alloc (.cells #[.int .i64 n, .int .i64 v] 26)) (w.heap.size) (.int .i64 n) (.int .i64 v) := by simpa using C2.here w (.int .i64 n) (.int .i64 v) 26
  by_cases ht : isTab n v = true
  · have HT := Lib.hid ht
    have HC : Hid (resIsSymmetric_1 n v = 0) := by unfold Hid resIsSymmetric_1; rw [if_pos ht]
    have HR : Hid (resIsSymmetric_0 n v = symB v n.toNat) := by unfold Hid resIsSymmetric_0; rw [ht]; rfl
    obtain ⟨n1, n5, h0, hv⟩ := tab_bd ht
    obtain ⟨N, hN⟩ := Int.eq_ofNat_of_zero_le (show 0 ≤ n by omega)
    have HS : Hid (∀ w, Calls Tryd.prog 31 #[.agg #[.int .i64 n, .int .i64 v]] w fun e w' => e = .returned (.bool (symB v n.toNat)) ∧ Below w.heap.size w w') := fun w => by
      rw [hN, Int.toNat_natCast]; exact l03Symmetric_any v N w (by omega) (by omega) h0 hv rfl
    clear ht hN
    generalize symB v n.toNat = r at *
    go_enter Tryd.func11, Tryd.ntmps11
    go_wp2_with (first | (go_at_call 25; (with_reducible refine (l01Is_b _ _ _ HT.out).mono ?_); rintro e w' ⟨rfl, hb⟩; have hL := chain (B := w.heap.size) (a := w) (by go_grown) (Nat.le_refl _) hb; (first | replace k0 := keepAt hb k0 | replace k0 := keepAt hb (C2.alloc k0 _)); clear hb) | (go_at_call 31; (with_reducible refine (HS.out _).mono ?_); rintro e w3 ⟨rfl, hb⟩; have hL := chain (B := w.heap.size) (a := w) hL (Nat.le_refl _) hb; clear hb))
    go_ret2
    exact ⟨by rw [HR.out, HC.out]; rfl, hL⟩
  · have ht : isTab n v = false := by simpa using ht
    have HT := Lib.hid ht
    have HC : Hid (resIsSymmetric_1 n v = 1) := by unfold Hid resIsSymmetric_1; rw [ht]; rfl
    have HR : Hid (resIsSymmetric_0 n v = false) := by unfold Hid resIsSymmetric_0; rw [ht]; rfl
    clear ht
    go_enter Tryd.func11, Tryd.ntmps11
    go_wp2_with ((go_at_call 25; (with_reducible refine (l01Is_b _ _ _ HT.out).mono ?_); rintro e w' ⟨rfl, hb⟩; have hL := chain (B := w.heap.size) (a := w) (by go_grown) (Nat.le_refl _) hb; (first | replace k0 := keepAt hb k0 | replace k0 := keepAt hb (C2.alloc k0 _)); clear hb))
    go_ret2
    exact ⟨by rw [HR.out, HC.out]; rfl, hL⟩

end Go.Proofs.YtapcblibokkhcaaDoor
