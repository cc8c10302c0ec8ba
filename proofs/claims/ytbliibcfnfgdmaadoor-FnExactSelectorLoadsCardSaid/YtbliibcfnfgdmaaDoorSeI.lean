/- IsSelector: the program's. -/
import Derived.Test.YtbliibcfnfgdmaaDoorSeM
import Derived.Test.YtbliibcfnfgdmaaDoorAt
import Derived.Deep.RegionHeld3
import Derived.Deep.DeepCutAuto
import Derived.Deep.RegionWith
namespace Go.Proofs.YtbliibcfnfgdmaaDoor
open Go.RowKit
set_option linter.unusedVariables false

theorem str_dot (s : ByteArray) (hs : s.size = 1) : (s.toList == [46]) = (byteAt s 0 == 46) := by
  have hl : s.toList = [s[0]] := by
    rw [Lib.toList_data]
    apply List.ext_getElem
    · show s.data.toList.length = 1
      rw [Array.length_toList]; exact hs
    · intro i h1 h2
      have : i = 0 := by simp at h2; omega
      subst this
      simp; rfl
  rw [hl, byteAt_eq s 0 (by omega)]
  have e : ((s[0].toNat : Int) == 46) = (s[0] == 46) := by
    rw [Bool.eq_iff_iff]
    simp only [beq_iff_eq]
    constructor
    · intro h; apply UInt8.toNat_inj.1; show s[0].toNat = 46; omega
    · intro h; rw [h]; rfl
  rw [e]; simp

set_option maxRecDepth 100000 in
set_option maxHeartbeats 1000000 in
theorem halves_any (u : ByteArray) (m : Nat) (w : World) (h : u.size = lenT (m + 1)) (hm : m ≤ 5) :
    Calls Tryd.prog 32 #[.string u] w fun e w' => e = .returned (.tuple #[.string (loU m u), .string (hiU m u)]) ∧ Below w.heap.size w w' := by
  have hl := lenT_le hm
  rw [lenT_succ] at h
  have HL : Hid (loU m u = u.extract 1 (1 + lenT m)) := rfl
  have HH : Hid (hiU m u = u.extract (1 + lenT m) u.size) := rfl
  have hd : (u.size : Int).tdiv 2 = (lenT m : Int) := by
    rw [Int.tdiv_eq_ediv_of_nonneg (by omega)]; omega
  have hsz : lenT m + 1 ≤ u.size := by omega
  generalize lenT m = q at *
  have HS := Lib.hid h
  clear h
  go_enter Tryd.func32, Tryd.ntmps32
  go_wp2_with fail
  go_quiet (fail)
  go_wp2
  go_ret2
  exact ⟨by rw [HL.out, HH.out]; rfl, Bdrew (Below.refl _ _) _⟩

set_option maxRecDepth 100000 in
set_option maxHeartbeats 1000000 in
theorem digit_yes (c : ByteArray) (w : World) (hs : c.size = 1) (h : 48 ≤ byteAt c 0 ∧ byteAt c 0 < 53) :
    Calls Tryd.prog 30 #[.string c, .int .i64 5] w fun e w' => e = .returned (.tuple #[.int .i64 (byteAt c 0 - 48), .bool true]) ∧ Below w.heap.size w w' := by
  have hlt : 0 < c.size := by omega
  have hb := byteAt_eq c 0 hlt
  rw [hb] at h ⊢
  have e : wrap64 (c[0].toNat : Int) = (c[0].toNat : Int) := IntWalk.wrap64_in _ (by omega)
  have hwd : wrap64 (wrap64 (c[0].toNat : Int) - 48) = (c[0].toNat : Int) - 48 := by
    rw [e, IntWalk.wrap64_in _ (by omega)]
  obtain ⟨D, hD⟩ : ∃ D : Int, (c[0].toNat : Int) - 48 = D := ⟨_, rfl⟩
  rw [hD] at hwd ⊢
  have HB := Lib.hid (fun w => isBelow_yes D 5 w (by omega))
  clear hb e hD h
  go_enter Tryd.func30, Tryd.ntmps30
  have HW := Lib.hid hwd
  go_wp2_with ((go_at_call 41; (with_reducible refine (HB.out _).mono ?_); rintro e w' ⟨rfl, rfl⟩))
  go_ret2
  exact ⟨by rw [← HW.out]; rfl, Below.refl _ _⟩
theorem digit_no (c : ByteArray) (w : World) (hs : c.size = 1) (h : ¬ (48 ≤ byteAt c 0 ∧ byteAt c 0 < 53)) :
    Calls Tryd.prog 30 #[.string c, .int .i64 5] w fun e w' => e = .returned (.tuple #[.int .i64 (-1), .bool false]) ∧ Below w.heap.size w w' := by
  have hlt : 0 < c.size := by omega
  have hb := byteAt_eq c 0 hlt
  have hbd := byteAt_bd c 0
  rw [hb] at h hbd
  obtain ⟨D, hD⟩ : ∃ D : Int, (c[0].toNat : Int) - 48 = D := ⟨_, rfl⟩
  have HB := Lib.hid (fun w => isBelow_no D 5 w (by omega))
  have e : wrap64 (c[0].toNat : Int) = (c[0].toNat : Int) := IntWalk.wrap64_in _ (by omega)
  have hwd : wrap64 (wrap64 (c[0].toNat : Int) - 48) = (c[0].toNat : Int) - 48 := by
    rw [e, IntWalk.wrap64_in _ (by omega)]
  rw [hD] at hwd
  clear hb e hD h hbd
  go_enter Tryd.func30, Tryd.ntmps30
  go_wp2_with ((go_at_call 41; (with_reducible refine (HB.out _).mono ?_); rintro e w' ⟨rfl, rfl⟩))
  go_ret2
  exact ⟨rfl, Below.refl _ _⟩

set_option maxRecDepth 100000 in
set_option maxHeartbeats 1000000 in
theorem isSelectorOf_leaf (u : ByteArray) (w : World) (hu : u.size = 1) :
    Calls Tryd.prog 25 #[.int .i64 0, .string u] w fun e w' => e = .returned (.bool (selAt u 0 0 0)) ∧ Below w.heap.size w w' := by
  have HD := Lib.hid (str_dot u hu)
  have HZ : Hid (selAt u 0 0 0 = (byteAt u 0 == 46)) := rfl
  clear hu
  go_enter Tryd.func25, Tryd.ntmps25
  go_wp2
  go_ret
  exact ⟨by rw [HZ.out, ← HD.out]; rfl, Below.refl _ _⟩

set_option maxRecDepth 100000 in
set_option maxHeartbeats 2000000 in
theorem isSelectorOf_any : ∀ (m L : Nat) (u : ByteArray) (w : World), L < 32 → pcN L = m → u.size = lenT m →
    Calls Tryd.prog 25 #[.int .i64 (L : Int), .string u] w fun e w' => e = .returned (.bool (selAt u m L 0)) ∧ Below w.heap.size w w' := by
  intro m
  induction m with
  | zero =>
    intro L u w hL hp hu
    have h0 := (pc_zero hL).2 hp
    subst h0
    exact isSelectorOf_leaf u w hu
  | succ m ih =>
    intro L u w hL hp hu
    have hne : L ≠ 0 := fun h => by rw [(pc_zero hL).1 h] at hp; omega
    have hm5 : m ≤ 5 := by
      have := pc_fin5 hL; omega
    have HA := Lib.hid (fun w => halves_any u m w hu hm5)
    have HV := Lib.hid (sel_split (L := L) hu)
    have hlen : 1 ≤ u.size := by rw [hu]; exact lenT_pos _
    have h1s : (u.extract 0 1).size = 1 := by rw [extract_size _ _ _ hlen]
    have h1b : byteAt (u.extract 0 1) 0 = byteAt u 0 := by rw [byteAt_extract _ _ _ _ hlen (by omega)]
    obtain ⟨LI, hLI⟩ : ∃ LI : Int, (L : Int) = LI := ⟨_, rfl⟩
    have hz : (LI == 0) = false := by rw [beq_eq_false_iff_ne]; omega
    by_cases hd : 48 ≤ byteAt u 0 ∧ byteAt u 0 < 53
    · obtain ⟨d, hdd⟩ : ∃ d : Nat, dgt u 0 = d := ⟨_, rfl⟩
      obtain ⟨D, hD⟩ : ∃ D : Int, byteAt u 0 - 48 = D := ⟨_, rfl⟩
      have hdD : (d : Int) = D := by rw [← hdd]; unfold dgt; omega
      have hd5 : d < 5 := by omega
      have hD0 : 0 ≤ D := by omega
      have hD5 : D < 5 := by omega
      have hDn : D.toNat = d := by omega
      have HY := Lib.hid (fun w => digit_yes (u.extract 0 1) w h1s (by rw [h1b]; exact hd))
      rw [h1b, hD] at HY
      have HG := Lib.hid (fun w => digitAt_any LI D w (by omega) (by omega) hD0 (by omega))
      have hdg : digZ LI D = ((dig L d : Nat) : Int) := by unfold digZ; rw [← hLI, Int.toNat_natCast, hDn]
      rw [hdg] at HG
      rw [hdd] at HV
      by_cases hb : dig L d = 1
      · rw [hb] at HG
        have HO : Hid (bits .andNot .i64 LI (wrap64 (2 ^ D.toNat)) = ((L - 2 ^ d : Nat) : Int)) := by rw [hDn, ← hLI]; exact out_walk hL hd5 hb
        have hpc := pc_less hL hd5 hb
        have hLL : L - 2 ^ d < 32 := Nat.lt_of_le_of_lt (Nat.sub_le _ _) hL
        have H1 := Lib.hid (fun w => ih (L - 2 ^ d) (loU m u) w hLL (by omega) (lo_size hu))
        have H2 := Lib.hid (fun w => ih (L - 2 ^ d) (hiU m u) w hLL (by omega) (hi_size hu))
        have HV2 : Hid (selAt u (m + 1) L 0 = (selAt (loU m u) m (L - 2 ^ d) 0 && selAt (hiU m u) m (L - 2 ^ d) 0)) := by
          unfold Hid; rw [HV.out, decide_eq_true ⟨by omega, hb⟩, Bool.true_and]
        generalize L - 2 ^ d = L' at *
        rw [hLI]
        clear HV hpc hb hd hdd hdD hd5 hD hDn hdg hLI hp hne hm5 hu ih h1s h1b
        have HR1 : ∀ b1 b2, Hid (selAt (loU m u) m L' 0 = b1) → Hid (selAt (hiU m u) m L' 0 = b2) → Hid (selAt u (m + 1) L 0 = (b1 && b2)) := fun b1 b2 h1 h2 => by
          unfold Hid; rw [HV2.out, h1.out, h2.out]
        cases hl : selAt (loU m u) m L' 0
        · have HV3 := HR1 _ _ hl rfl
          rw [hl] at H1
          generalize selAt (hiU m u) m L' 0 = B2 at *
          clear hl HR1 HV2
          go_enter Tryd.func25, Tryd.ntmps25
          go_wp2_with (first | (go_at_call 30; (with_reducible refine (HY.out _).mono ?_); rintro e w1 ⟨rfl, hL⟩) | (go_at_call 31; (with_reducible refine (HG.out _).mono ?_); rintro e w2 ⟨rfl, rfl⟩) | (go_at_call 32; (with_reducible refine (HA.out _).mono ?_); rintro e w3 ⟨rfl, hb⟩; have hL := chain (B := w.heap.size) (a := w) (by go_grown) (Nat.le_refl _) hb))
          rw [HO.out]
          refine (H1.out _).mono ?_
          rintro e w4 ⟨rfl, hb4⟩
          have hL4 := chain (B := w.heap.size) (a := w) hL (Nat.le_refl _) hb4
          go_wp2_with fail
          go_ret
          exact ⟨by rw [HV3.out]; rfl, hL4⟩
        · have HV3 := HR1 _ _ hl rfl
          rw [hl] at H1
          generalize selAt (hiU m u) m L' 0 = B2 at *
          clear hl HR1 HV2
          go_enter Tryd.func25, Tryd.ntmps25
          go_wp2_with (first | (go_at_call 30; (with_reducible refine (HY.out _).mono ?_); rintro e w1 ⟨rfl, hL⟩) | (go_at_call 31; (with_reducible refine (HG.out _).mono ?_); rintro e w2 ⟨rfl, rfl⟩) | (go_at_call 32; (with_reducible refine (HA.out _).mono ?_); rintro e w3 ⟨rfl, hb⟩; have hL := chain (B := w.heap.size) (a := w) (by go_grown) (Nat.le_refl _) hb))
          rw [HO.out]
          refine (H1.out _).mono ?_
          rintro e w4 ⟨rfl, hb4⟩
          have hL4 := chain (B := w.heap.size) (a := w) hL (Nat.le_refl _) hb4
          go_wp2_with fail
          refine (H2.out _).mono ?_
          rintro e w5 ⟨rfl, hb5⟩
          have hL5 := chain (B := w.heap.size) (a := w) hL4 (Nat.le_refl _) hb5
          go_wp2_with fail
          go_ret
          exact ⟨by rw [HV3.out, Bool.true_and]; rfl, hL5⟩
      · have h2 := dig_lt L d
        rw [show dig L d = 0 by omega] at HG
        have HV2 : Hid (selAt u (m + 1) L 0 = false) := by
          unfold Hid; rw [HV.out, decide_eq_false (fun h => hb h.2)]; rfl
        rw [hLI]
        clear HV hb hd hdd hdD hd5 hD hDn hdg hLI hp hne hm5 hu ih h1s h1b h2
        go_enter Tryd.func25, Tryd.ntmps25
        go_wp2_with (first | (go_at_call 30; (with_reducible refine (HY.out _).mono ?_); rintro e w1 ⟨rfl, hL⟩) | (go_at_call 31; (with_reducible refine (HG.out _).mono ?_); rintro e w2 ⟨rfl, rfl⟩) | (go_at_call 32; (with_reducible refine (HA.out _).mono ?_); rintro e w3 ⟨rfl, hb⟩; have hL := chain (B := w.heap.size) (a := w) (by go_grown) (Nat.le_refl _) hb))
        go_ret
        exact ⟨by rw [HV2.out]; rfl, hL⟩
    · have HY := Lib.hid (fun w => digit_no (u.extract 0 1) w h1s (by rw [h1b]; exact hd))
      have HV2 : Hid (selAt u (m + 1) L 0 = false) := by
        unfold Hid; rw [HV.out, decide_eq_false (fun h => hd (by omega))]; rfl
      rw [hLI]
      clear HV hd hLI hp hne hm5 hu ih h1s h1b
      go_enter Tryd.func25, Tryd.ntmps25
      go_wp2_with (first | (go_at_call 30; (with_reducible refine (HY.out _).mono ?_); rintro e w1 ⟨rfl, hL⟩))
      go_ret
      exact ⟨by rw [HV2.out]; rfl, hL⟩

theorem allInputs_any (n : Int) (w : World) (n1 : 1 ≤ n) (n5 : n ≤ 5) :
    Calls Tryd.prog 26 #[.int .i64 n] w fun e w' => e = .returned (.int .i64 ((2 ^ n.toNat - 1 : Nat) : Int)) ∧ w = w' := by
  have hb := rcZ_bd n1 n5
  have HR := Lib.hid (fun w => rowCount_any n w n1 n5)
  obtain ⟨R, hR⟩ : ∃ R : Int, rcZ n = R := ⟨_, rfl⟩
  have hR1 : Hid (((2 ^ n.toNat - 1 : Nat) : Int) = R - 1) := by unfold Hid; rw [← hR]; unfold rcZ; have := Nat.two_pow_pos n.toNat; omega
  rw [hR] at HR hb
  clear hR
  go_enter Tryd.func26, Tryd.ntmps26
  go_wp2_with ((go_at_call 24; (with_reducible refine (HR.out _).mono ?_); rintro e w' ⟨rfl, rfl⟩))
  go_ret
  exact ⟨by rw [hR1.out]; rfl, rfl⟩

set_option maxRecDepth 100000 in
set_option maxHeartbeats 2000000 in
theorem iIsSelector_any (n : Int) (s : ByteArray) (hs : s.size ≤ 1048576) (w : World) :
    Calls Tryd.prog 18 #[.int .i64 n, .string s] w fun e w' => e = .returned (.bool (isSel n s)) ∧ Below w.heap.size w w' := by
  by_cases h : 1 ≤ n ∧ n ≤ 5
  · have hb := rcZ_bd h.1 h.2
    have HI := Lib.hid (fun w => isInputCount_yes n w h.1 h.2)
    have HR := Lib.hid (fun w => rowCount_any n w h.1 h.2)
    obtain ⟨R, hR⟩ : ∃ R : Int, rcZ n = R := ⟨_, rfl⟩
    have hlen : (lenT n.toNat : Int) = 2 * R - 1 := by
      have hp := Nat.two_pow_pos n.toNat
      rw [← hR]; unfold rcZ lenT; rw [Nat.pow_succ]; omega
    rw [hR] at HR hb
    obtain ⟨Z, hZ⟩ : ∃ Z : Int, (s.size : Int) = Z := ⟨_, rfl⟩
    by_cases hsz : s.size = lenT n.toNat
    · have HA := Lib.hid (fun w => allInputs_any n w h.1 h.2)
      have hL : 2 ^ n.toNat - 1 < 32 := by have : rcZ n = ((2 ^ n.toNat : Nat) : Int) := rfl; omega
      have HS := Lib.hid (fun w => isSelectorOf_any n.toNat (2 ^ n.toNat - 1) s w hL (pc_full ⟨n.toNat, by omega⟩) hsz)
      have HV := Lib.hid (isSel_at h hsz)
      have hq : ((s.size : Int) == 2 * R - 1) = true := by rw [beq_iff_eq]; omega
      generalize (((2 ^ n.toNat - 1 : Nat)) : Int) = AI at *
      generalize selAt s n.toNat (2 ^ n.toNat - 1) 0 = B at *
      obtain ⟨h1, h5⟩ := h
      clear hlen hsz hL hZ hR
      go_enter Tryd.func18, Tryd.ntmps18
      go_wp2_with (first | (go_at_call 14; (with_reducible refine (HI.out _).mono ?_); rintro e w' ⟨rfl, rfl⟩) | (go_at_call 24; (with_reducible refine (HR.out _).mono ?_); rintro e w' ⟨rfl, rfl⟩) | (go_at_call 26; (with_reducible refine (HA.out _).mono ?_); rintro e w' ⟨rfl, rfl⟩) | (go_at_call 25; (with_reducible refine (HS.out _).mono ?_); rintro e w4 ⟨rfl, hL⟩))
      go_ret
      exact ⟨by rw [HV.out]; rfl, hL⟩
    · have HV := Lib.hid (isSel_len (n := n) hsz)
      have hq : ((s.size : Int) == 2 * R - 1) = false := by rw [beq_eq_false_iff_ne]; omega
      obtain ⟨h1, h5⟩ := h
      clear hlen hsz hZ hR
      go_enter Tryd.func18, Tryd.ntmps18
      go_wp2_with (first | (go_at_call 14; (with_reducible refine (HI.out _).mono ?_); rintro e w' ⟨rfl, rfl⟩) | (go_at_call 24; (with_reducible refine (HR.out _).mono ?_); rintro e w' ⟨rfl, rfl⟩))
      go_ret
      exact ⟨by rw [HV.out]; rfl, Below.refl _ _⟩
  · have HV := Lib.hid (isSel_no (s := s) h)
    have HI := Lib.hid (fun w => isInputCount_no n w (by omega))
    clear h
    go_enter Tryd.func18, Tryd.ntmps18
    go_wp2_with (first | (go_at_call 14; (with_reducible refine (HI.out _).mono ?_); rintro e w' ⟨rfl, rfl⟩))
    go_ret
    exact ⟨by rw [HV.out]; rfl, Below.refl _ _⟩

end Go.Proofs.YtbliibcfnfgdmaaDoor
