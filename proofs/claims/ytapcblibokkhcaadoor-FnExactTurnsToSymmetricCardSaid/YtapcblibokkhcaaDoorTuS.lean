/- TurnsToSymmetric: the model's. -/
import Derived.Test.YtapcblibokkhcaaDoorTuM
import Derived.Test.YtapcblibokkhcaaDoorSyS
import Derived.Deep.RegionWith
namespace Go.Proofs.YtapcblibokkhcaaDoor
open Go.RowKit
set_option linter.unusedVariables false

/-- the values of the first k rows when the inputs of the set t are turned round -/
def turnTo (v : Int) (t k : Nat) : Int := buildZ (fun k => dig v.toNat (k ^^^ t)) k
theorem turnTo_step (v : Int) {k t : Nat} (hk : k < 32) (ht : t < 32) : bits .or .i64 (turnTo v t k) (wrap64 (digZ v (bits .xor .i64 (k : Int) (t : Int)) * 2 ^ k)) = turnTo v t (k + 1) := by
  have hx := i64_xor k t (by omega) (by omega)
  rw [hx]
  exact build_stepZ v (fun k => k ^^^ t) k ((k ^^^ t : Nat) : Int) hk (by omega) (by rw [Int.toNat_natCast])
theorem xor_bd {N k t : Nat} (hN : N ≤ 5) (hk : k < 2 ^ N) (ht : t < 2 ^ N) : 0 ≤ bits .xor .i64 (k : Int) (t : Int) ∧ bits .xor .i64 (k : Int) (t : Int) ≤ 62 := by
  have h32 := pow5 hN
  have := xor_lt hk ht
  rw [i64_xor k t (by omega) (by omega)]
  omega

set_option maxRecDepth 100000 in
set_option maxHeartbeats 8000000 in
theorem turnsS_any (n v : Int) (w : World) (ht : isTab n v = true) :
    Calls Tryd.prog 23 #[.agg #[.int .i64 n, .int .i64 v]] w fun e w' => ∃ u, e = .returned (.tuple #[u, .int .i64 (resTurnsToSymmetric_1 n v)]) ∧ Owns w' w.heap.size u (resTurnsToSymmetric_0 n v) ∧ Below w.heap.size w w' := by
  obtain ⟨i0, hi, hz0, hz1, hz2⟩ := info_parts info64
  have HIs := Lib.hid ht
  obtain ⟨n1, n5, h0, hv⟩ := tab_bd ht
  obtain ⟨N, rfl⟩ := Int.eq_ofNat_of_zero_le (show 0 ≤ n by omega)
  have k0 := C2.here w (.int .i64 (N : Int)) (.int .i64 v) 26
  obtain ⟨j, hj, hno, hyes⟩ := firstB (fun t => symB (turnV v N t) N) (2 ^ N)
  have hN5 : N ≤ 5 := by omega
  have h32 := pow5 hN5
  have HSome : Hid (j < 2 ^ N → resTurnsToSymmetric_0 (N : Int) v = onesTo (j : Int) N ∧ resTurnsToSymmetric_1 (N : Int) v = 0) := fun h =>
    resTu_some ht (Int.toNat_natCast N) (find_some _ _ j h hno (hyes h))
  have HNone : Hid (j = 2 ^ N → resTurnsToSymmetric_0 (N : Int) v = [] ∧ resTurnsToSymmetric_1 (N : Int) v = 4) := fun h => by
    subst h
    exact resTu_none ht (Int.toNat_natCast N) (find_none _ _ hno)
  have HNo := Lib.hid hno
  have HYes := Lib.hid hyes
  have HR : Hid (∀ w, Calls Tryd.prog 42 #[.int .i64 (N : Int)] w fun e w' => e = .returned (.int .i64 ((2 ^ N : Nat) : Int)) ∧ w = w') := fun w => by
    have := l01Rows_any (N : Int) w n1 n5
    unfold rcZ at this
    rw [Int.toNat_natCast] at this
    exact this
  have HSy := Lib.hid (fun (t : Nat) (w : World) (b : Bool) (hb : symB (turnV v N t) N = b) => l03Symmetric_any (turnV v N t) N w (by omega) hN5 (turnV_bd v t hN5).1 (turnV_bd v t hN5).2 hb)
  have HTV : Hid (∀ t, turnV v N t = turnTo v t (2 ^ N)) := fun t => rfl
  have HXB := Lib.hid (fun (k t : Nat) (hk : k < 2 ^ N) (ht : t < 2 ^ N) => xor_bd hN5 hk ht)
  obtain ⟨M, hM⟩ : ∃ M, 2 ^ N = M := ⟨_, rfl⟩
  rw [hM] at hj HSome HNone HYes HR h32 HTV HXB
  clear hno hyes ht hM
  generalize resTurnsToSymmetric_0 (N : Int) v = R0 at *
  generalize resTurnsToSymmetric_1 (N : Int) v = R1 at *
  go_enter Tryd.func23, Tryd.ntmps23
  go_wp2_with ((go_at_call 25; (with_reducible refine (l01Is_b _ _ _ HIs.out).mono ?_); rintro e w' ⟨rfl, hb⟩; have hL := chain (B := w.heap.size) (a := w) (by go_grown) (Nat.le_refl _) hb; (first | replace k0 := keepAt hb k0 | replace k0 := keepAt hb (C2.alloc k0 _)); clear hb))
  go_loopw [4] (fun c wr => ∃ t : Nat, t ≤ j ∧ c = .int .i64 (t : Int) ∧ Below w.heap.size w wr ∧ C2 wr w.heap.size (.int .i64 (N : Int)) (.int .i64 v)) (fun c _ => M - (intOf c).toNat)
  case atStart => exact ⟨0, Nat.zero_le _, rfl, hL, k0⟩
  case round =>
    clear k0 hL
    obtain ⟨t, htj, rfl, hL, k0⟩ := hrel
    by_cases hlt : t < M
    · have hi1 : (t : Int) < (M : Int) := by omega
      have ht32 : t < 32 := by omega
      have hLo := hL
      have koo := k0
      have hzo := k0.2.2.2.2
      clear hL k0
      obtain ⟨wo, hwo⟩ : ∃ wo : World, wo = wr := ⟨_, rfl⟩
      subst hwo
      have hT0 : turnTo v t 0 = 0 := rfl
      go_wp2_with ((go_at_call 42; (with_reducible refine (HR.out _).mono ?_); rintro e w' ⟨rfl, rfl⟩))
      have kw := C2.here wo (.int .i64 (N : Int)) (.int .i64 0) 26
      generalize hgo : wo.heap.size = go_ at *
      have hne : w.heap.size ≠ go_ := by omega
      have hle : w.heap.size ≤ go_ := by omega
      go_loopw [6] (fun c wr => ∃ k : Nat, k ≤ M ∧ c = .int .i64 (k : Int) ∧ Below w.heap.size w wr ∧ C2 wr w.heap.size (.int .i64 (N : Int)) (.int .i64 v) ∧ C2 wr go_ (.int .i64 (N : Int)) (.int .i64 (turnTo v t k))) (fun c _ => M - (intOf c).toNat)
      case atStart => exact ⟨0, Nat.zero_le _, rfl, by first | exact hLo.alloc (by omega) _ | go_grown, koo.alloc _, by rw [hT0]; exact kw⟩
      case round =>
        clear hLo koo kw
        obtain ⟨k, hk, rfl, hL, k0, kt⟩ := hrel
        by_cases hlk : k < M
        · have hj1 : (k : Int) < (M : Int) := by omega
          have hxb := HXB.out k t hlk hlt
          have HA := Lib.hid (fun w => l01At_any (N : Int) v (bits .xor .i64 (k : Int) (t : Int)) w h0 hv hxb.1 hxb.2)
          have Hs := Lib.hid (turnTo_step v (show k < 32 by omega) ht32)
          have hkz : 0 ≤ (k : Int) ∧ (k : Int) ≤ 63 := by omega
          have hm2 : min k 64 = k := by omega
          clear hxb
          go_wp2_with ((go_at_call 42; (with_reducible refine (HR.out _).mono ?_); rintro e w' ⟨rfl, rfl⟩))
          have hu2 := u64_in (x := (k : Int)) hkz.1 hkz.2
          go_region_with ((go_at_call 43; (with_reducible refine (HA.out _).mono ?_); rintro e w' ⟨rfl, hb⟩; have hL := chain (B := w.heap.size) (a := w) (by go_grown) (Nat.le_refl _) hb; (first | replace k0 := keepAt hb k0 | replace k0 := keepAt hb (C2.alloc k0 _)); (first | replace kt := keepAt hb kt | replace kt := keepAt hb (C2.alloc kt _)); clear hb))
          all_goals (clear hu2 hm2 hkz)
          all_goals (go_wp2_with fail)
          all_goals (try rw [wrapW])
          all_goals (rw [Hs.out]; exact ⟨⟨k + 1, by omega, by go_num, (by first | exact hL | go_grown : Below w.heap.size w _).setCell (p := ⟨go_, 1, none⟩) hle _, k0.set _ _ _ hne, kt.put1 _⟩, by simp [intOf]; omega⟩)
        · have e : k = M := by omega
          rw [e, ← HTV.out] at kt
          clear e
          have hng : ¬ (k : Int) < (M : Int) := by omega
          have HY := Lib.hid (HSy.out t)
          have HNt := Lib.hid (HNo.out t)
          have HYt : Hid (t = j → symB (turnV v N t) N = true) := fun h => by rw [h]; exact HYes.out (by omega)
          generalize turnV v N t = Y at *
          by_cases htj2 : t < j
          · have HSk : Hid (∀ w, Calls Tryd.prog 31 #[.agg #[.int .i64 (N : Int), .int .i64 Y]] w fun e w' => e = .returned (.bool false) ∧ Below w.heap.size w w') := fun w => HY.out w false (HNt.out htj2)
            clear HSy HXB
            go_wp2_with (first | (go_at_call 42; (with_reducible refine (HR.out _).mono ?_); rintro e w' ⟨rfl, rfl⟩) | (go_at_call 31; (with_reducible refine (HSk.out _).mono ?_); rintro e w3 ⟨rfl, hb⟩; have hL := chain (B := w.heap.size) (a := w) hL (Nat.le_refl _) hb; have k0 := keepAt hb k0; clear hb))
            exact ⟨⟨t + 1, by omega, by go_num, hL, k0⟩, by simp [intOf]; omega⟩
          · have e : t = j := by omega
            have HSk : Hid (∀ w, Calls Tryd.prog 31 #[.agg #[.int .i64 (N : Int), .int .i64 Y]] w fun e w' => e = .returned (.bool true) ∧ Below w.heap.size w w') := fun w => HY.out w true (HYt.out e)
            have HRes := HSome.out (by omega)
            rw [← e] at HRes
            have HRs := Lib.hid HRes
            clear HSy HXB HRes e HNo HYes HSome HNone hng
            have hng : ¬ (k : Int) < (M : Int) := by omega
            have HB0 := Lib.hid (fun (w3 : World) => (World.ownsRow_made (base := w3.heap.size) (e := 2) (size := 1) w3 #[] 0 (by simp) (by simp) rfl : Owns (w3.alloc (.cells #[] 2)) w3.heap.size (.slice (some ⟨w3.heap.size, 0, none⟩) 0 0) (onesTo (t : Int) 0)))
            clear hk hlk
            obtain ⟨wp, hwp⟩ : ∃ wp : World, wp = wr := ⟨_, rfl⟩
            subst hwp
            go_wp2_with (first | (go_at_call 42; (with_reducible refine (HR.out _).mono ?_); rintro e w' ⟨rfl, rfl⟩) | (go_at_call 31; (with_reducible refine (HSk.out _).mono ?_); rintro e w3 ⟨rfl, hb⟩; have hL3 := chain (B := w.heap.size) (a := w) hL (Nat.le_refl _) hb; have k3 := keepAt hb k0; clear hb))
            have hz3 := hL3.size
            have hne3 := k3.2.2.2.2
            have oo3 := HB0.out w3
            generalize hB3 : w3.heap.size = B3 at *
            have hL4 := hL3.alloc (by omega) (.cells #[] 2)
            have k4 := k3.alloc (.cells #[] 2)
            clear hL3 k3 hL k0 kt
            go_loopw [7, 8] (fun u c wr => ∃ i : Nat, i ≤ N ∧ c = .int .i64 (i : Int) ∧ Below w.heap.size w wr ∧ C2 wr w.heap.size (.int .i64 (N : Int)) (.int .i64 v) ∧ Owns wr B3 u (onesTo (t : Int) i) ∧ B3 ≤ wr.heap.size) (fun _ c _ => N - (intOf c).toNat)
            case atStart => exact ⟨0, Nat.zero_le _, rfl, hL4, k4, oo3, by simp; omega⟩
            case round =>
              clear hL4 k4 oo3
              obtain ⟨i, hi_, rfl, hL, k0, oo, hzB⟩ := hrel
              by_cases hli : i < N
              · have hii : (i : Int) < (N : Int) := by omega
                have hw : bits .and .i64 ((t : Int) / 2 ^ i) 1 = digZ (t : Int) (i : Int) := by have := digit_walk (t : Int) (i : Int) (by omega) (by omega) (by omega); simpa using this
                have Hl := Lib.hid (onesTo_len (t : Int) i)
                by_cases hb : dig (t : Int).toNat i = 1
                · have hd1 : (bits .and .i64 ((t : Int) / 2 ^ i) 1 == 1) = true := by
                    have hb2 : dig t i = 1 := by simpa using hb
                    rw [hw]; unfold digZ; simp only [Int.toNat_natCast]; rw [hb2]; rfl
                  have Hn := Lib.hid (onesTo_hit (t : Int) i hb)
                  clear hb hw
                  go_wp2_with (at_builtin; refine wpList_append_own _ rfl _ _ 31 rfl B3 2 i0 (.int .i64 0) 1 8 Tryd.underlying31 hi hz0 hz1 hz2 rfl (by decide) _ _ _ rfl (World.ownsRow.alloc oo _) ⟨wr.heap.size, 0, none⟩ 1 1 [.int .i64 (i : Int)] rfl rfl (cell_one_new _ _ _) (by simp [Value.oneCell']) (by have := Hl.out; unfold maxLen; omega) (by have := Hl.out; omega) (by simp; omega) ?_; intro v' w5 hown' hgrow hnil)
                  have hfrom := oo.rowsFrom (B := w.heap.size) (by omega)
                  have hsep := oo.notBlock (b := w.heap.size) (by omega)
                  have hgz := hgrow.size
                  rw [World.size_alloc] at hgz
                  exact ⟨⟨i + 1, by omega, by go_num, (hL.alloc (by omega) _).grown hgrow (by simp; omega) hfrom, (k0.alloc _).grown hgrow hsep, by rw [Hn.out]; exact Owns.snoc hown', by omega⟩, by simp [intOf]; omega⟩
                · have hd1 : (bits .and .i64 ((t : Int) / 2 ^ i) 1 == 1) = false := by
                    have := dig_lt (t : Int).toNat i
                    have e : dig (t : Int).toNat i = 0 := by omega
                    have e2 : dig t i = 0 := by simpa using e
                    rw [hw]; unfold digZ; simp only [Int.toNat_natCast]; rw [e2]; rfl
                  have Hn := Lib.hid (onesTo_miss (t : Int) i hb)
                  clear hb hw
                  go_wp2_with fail
                  exact ⟨⟨i + 1, by omega, by go_num, hL, k0, by rw [Hn.out]; exact oo, hzB⟩, by simp [intOf]; omega⟩
              · have e : i = N := by omega
                rw [e] at oo
                clear e
                have hii : ¬ (i : Int) < (N : Int) := by omega
                go_wp2_with fail
                go_ret2
                exact ⟨_, by rw [HRs.out.2]; rfl, by rw [HRs.out.1]; exact oo.mono (by omega), hL⟩
    · have HRs := Lib.hid (HNone.out (by omega))
      have hng : ¬ (t : Int) < (M : Int) := by omega
      go_wp2_with ((go_at_call 42; (with_reducible refine (HR.out _).mono ?_); rintro e w' ⟨rfl, rfl⟩))
      go_ret2
      exact ⟨_, by rw [HRs.out.2]; rfl, by rw [HRs.out.1]; exact World.ownsRow_nil _ _ _ _, hL⟩

theorem sTurnsToSymmetric_any (n v : Int) (w : World) :
    Calls Tryd.prog 23 #[.agg #[.int .i64 n, .int .i64 v]] w fun e w' => ∃ u, e = .returned (.tuple #[u, .int .i64 (resTurnsToSymmetric_1 n v)]) ∧ Owns w' w.heap.size u (resTurnsToSymmetric_0 n v) ∧ Below w.heap.size w w' := by
  by_cases ht : isTab n v = true
  · exact turnsS_any n v w ht
  · have ht : isTab n v = false := by simpa using ht
    have HT := Lib.hid ht
    have HR := Lib.hid (resTu_bad ht)
    have k0 : C2 (w.alloc (.cells #[.int .i64 n, .int .i64 v] 26)) (w.heap.size) (.int .i64 n) (.int .i64 v) := by simpa using C2.here w (.int .i64 n) (.int .i64 v) 26
    clear ht
    go_enter Tryd.func23, Tryd.ntmps23
    go_wp2_with ((go_at_call 25; (with_reducible refine (l01Is_b _ _ _ HT.out).mono ?_); rintro e w' ⟨rfl, hb⟩; have hL := chain (B := w.heap.size) (a := w) (by go_grown) (Nat.le_refl _) hb; (first | replace k0 := keepAt hb k0 | replace k0 := keepAt hb (C2.alloc k0 _)); clear hb))
    go_ret2
    exact ⟨_, by rw [HR.out.2]; rfl, by rw [HR.out.1]; exact World.ownsRow_nil _ _ _ _, hL⟩

end Go.Proofs.YtapcblibokkhcaaDoor
