/- IsSelector: the model's. -/
import Derived.Test.YtbliibcfnfgdmaaDoorSeM
import Derived.Test.YtbliibcfnfgdmaaDoorAt
namespace Go.Proofs.YtbliibcfnfgdmaaDoor
open Go.RowKit
set_option linter.unusedVariables false

theorem l09End_out (s : ByteArray) (a L : Nat) (w : World) (hs : s.size ≤ 1048576) (ha : s.size ≤ a) :
    Calls Tryd.prog 22 #[.string s, .int .i64 (a : Int), .int .i64 (L : Int)] w fun e w' => e = .returned (.int .i64 (-1)) ∧ Below w.heap.size w w' := by
  have h1 : (s.size : Int) ≤ (a : Int) := by omega
  go_enter Tryd.func22, Tryd.ntmps22
  go_wp2
  go_ret
  exact ⟨rfl, Below.refl _ _⟩

set_option maxRecDepth 100000 in
set_option maxHeartbeats 1000000 in
theorem l09End_leaf (s : ByteArray) (a : Nat) (w : World) (hs : s.size ≤ 1048576) (hlt : a < s.size) :
    Calls Tryd.prog 22 #[.string s, .int .i64 (a : Int), .int .i64 0] w fun e w' => e = .returned (.int .i64 (endT s 0 0 a)) ∧ Below w.heap.size w w' := by
  have hnlt : ¬ (s.size : Int) ≤ (a : Int) := by omega
  have hwr : (a : Int) + 1 ≤ 9223372036854775807 := by omega
  by_cases h46 : (s[a].toNat : Int) = 46
  · have ne : ((s[a].toNat : Int) != 46) = false := by simp; omega
    have HE : Hid (endT s 0 0 a = (a : Int) + 1) := by
      unfold Hid; rw [endT_yes (by rw [selAt_zero, byteAt_eq s a hlt]; simpa using h46)]; rfl
    clear h46
    go_enter Tryd.func22, Tryd.ntmps22
    go_wp2
    go_ret
    exact ⟨by rw [HE.out]; try rfl, Below.refl _ _⟩
  · have ne : ((s[a].toNat : Int) != 46) = true := by simp; omega
    have HE : Hid (endT s 0 0 a = -1) := by
      unfold Hid; rw [endT_no (by rw [selAt_zero, byteAt_eq s a hlt]; simpa using h46)]
    clear h46
    go_enter Tryd.func22, Tryd.ntmps22
    go_wp2
    go_ret
    exact ⟨by rw [HE.out]; rfl, Below.refl _ _⟩

/-- what the walk of l09End asks of a digit -/
theorem bit_one {L d : Nat} (hL : L < 32) (hd : d < 5) : bits .and .i64 ((L : Int) / 2 ^ d) 1 = ((dig L d : Nat) : Int) := by
  have := digit_walk (L : Int) (d : Int) (by omega) (by omega) (by omega)
  rw [Int.toNat_natCast] at this
  rw [this]; unfold digZ; rw [Int.toNat_natCast, Int.toNat_natCast]

/-- one digit more -/
theorem endT_step {s : ByteArray} {m L a d : Nat} (hd : 0 ≤ byteAt s a - 48 ∧ byteAt s a - 48 < 5) (hdd : dgt s a = d) (hb : dig L d = 1) (h1 : selAt s m (L - 2 ^ d) (a + 1) = true) : endT s (m + 1) L a = endT s m (L - 2 ^ d) (a + 1 + lenT m) := by
  unfold endT
  rw [selAt_succ, hdd, decide_eq_true ⟨hd, hb⟩, h1, lenT_succ]
  simp only [Bool.true_and]
  split
  · congr 1; omega
  · rfl
theorem endT_stop {s : ByteArray} {m L a d : Nat} (hdd : dgt s a = d) (h1 : ¬ ((0 ≤ byteAt s a - 48 ∧ byteAt s a - 48 < 5) ∧ dig L d = 1) ∨ selAt s m (L - 2 ^ d) (a + 1) = false) : endT s (m + 1) L a = -1 := by
  apply endT_no
  rw [selAt_succ, hdd]
  rcases h1 with h1 | h1
  · rw [decide_eq_false h1]; rfl
  · rw [h1]; simp

set_option maxRecDepth 100000 in
set_option maxHeartbeats 2000000 in
theorem l09End_any (s : ByteArray) (hs : s.size ≤ 1048576) : ∀ (m L a : Nat) (w : World), L < 32 → pcN L = m → a ≤ s.size →
    Calls Tryd.prog 22 #[.string s, .int .i64 (a : Int), .int .i64 (L : Int)] w fun e w' => e = .returned (.int .i64 (endT s m L a)) ∧ Below w.heap.size w w' := by
  intro m
  induction m with
  | zero =>
    intro L a w hL hp ha
    have h0 := (pc_zero hL).2 hp
    subst h0
    rcases Nat.lt_or_ge a s.size with hlt | hge
    · exact l09End_leaf s a w hs hlt
    · rw [endT_no (by cases h : selAt s 0 0 a; rfl; have := selAt_in h; have := lenT_pos 0; omega)]
      exact l09End_out s a 0 w hs hge
  | succ m ih =>
    intro L a w hL hp ha
    rcases Nat.lt_or_ge a s.size with hlt | hge
    · have hne : L ≠ 0 := fun h => by rw [(pc_zero hL).1 h] at hp; omega
      have hnlt : ¬ (s.size : Int) ≤ (a : Int) := by omega
      have hz : ((L : Int) == 0) = false := by simp; omega
      have hwr : (a : Int) + 1 ≤ 9223372036854775807 := by omega
      have hby := byteAt_eq s a hlt
      have hbd := byteAt_bd s a
      by_cases hd : 0 ≤ byteAt s a - 48 ∧ byteAt s a - 48 < 5
      · obtain ⟨d, hdd⟩ : ∃ d : Nat, dgt s a = d := ⟨_, rfl⟩
        have hde : (s[a].toNat : Int) - 48 = (d : Int) := by rw [← hby, ← hdd]; unfold dgt; omega
        have hd5 : d < 5 := by rw [← hby] at hde; omega
        have hwd : wrap64 (wrap64 (s[a].toNat : Int) - 48) = (d : Int) := by
          rw [← hby] at hde ⊢
          have e : wrap64 (byteAt s a) = byteAt s a := IntWalk.wrap64_in _ (by omega)
          rw [e, hde, IntWalk.wrap64_in _ (by omega)]
        obtain ⟨D, hD⟩ : ∃ D : Int, (d : Int) = D := ⟨_, rfl⟩
        obtain ⟨LI, hLI⟩ : ∃ LI : Int, (L : Int) = LI := ⟨_, rfl⟩
        have hdD : D.toNat = d := by omega
        have hD0 : 0 ≤ D := by omega
        have hD5 : D < 5 := by omega
        have hLI0 : 0 ≤ LI := by omega
        have hLI32 : LI < 32 := by omega
        have HI := Lib.hid (fun w => l01In_yes D 0 4 w (by omega))
        have HB : Hid (bits .and .i64 (LI / 2 ^ D.toNat) 1 = ((dig L d : Nat) : Int)) := by rw [hdD, ← hLI]; exact bit_one hL hd5
        have hu64 : IntKind.u64.wrap D = D := IntWalk.u64_in _ (by omega)
        have hLne : LI ≠ 0 := by omega
        rw [hD] at hwd
        rw [hLI] at hz ⊢
        by_cases hb : dig L d = 1
        · have hB0 : (bits .and .i64 (LI / 2 ^ D.toNat) 1 == 0) = false := by rw [HB.out, hb]; rfl
          clear HB
          have HO : Hid (bits .andNot .i64 LI (wrap64 (2 ^ D.toNat)) = ((L - 2 ^ d : Nat) : Int)) := by rw [hdD, ← hLI]; exact out_walk hL hd5 hb
          have hpc := pc_less hL hd5 hb
          have h1 := ih (L - 2 ^ d) (a + 1)
          obtain ⟨L', hL'⟩ : ∃ L' : Nat, L - 2 ^ d = L' := ⟨_, rfl⟩
          rw [hL'] at HO h1
          have hLL : L' < 32 := by rw [← hL']; exact Nat.lt_of_le_of_lt (Nat.sub_le _ _) hL
          cases hsel : selAt s m L' (a + 1)
          · have HE := Lib.hid (endT_stop (m := m) (L := L) hdd (.inr (by rw [hL']; exact hsel)))
            rw [endT_no hsel, show (((a + 1 : Nat)) : Int) = (a : Int) + 1 by omega] at h1
            have H1 := Lib.hid (fun w => h1 w hLL (by rw [← hL']; omega) (by omega))
            clear hp hpc ih h1 hsel hL' hb hd hdd hby hbd hne ha hde hD hdD hLI hL hLL hd5
            go_enter Tryd.func22, Tryd.ntmps22
            go_wp2_with (go_at_call 12; (with_reducible refine (HI.out _).mono ?_); rintro e w' ⟨rfl, rfl⟩; refine Hid.out ?_)
            refine Lib.hid ?_
            generalize wrap64 (s[a].toNat : Int) = cb at *
            generalize (s[a].toNat : Int) = ca at *
            clear hwd
            go_wp2_with fail
            rw [HO.out]
            refine (H1.out _).mono ?_
            rintro e w1 ⟨rfl, hb1⟩
            go_wp2_with fail
            go_ret
            exact ⟨by rw [HE.out]; rfl, hb1⟩
          · have HE := Lib.hid (endT_step (s := s) (m := m) (L := L) (a := a) hd hdd hb (by rw [hL']; exact hsel))
            have hin := selAt_in hsel
            have hlp := lenT_pos m
            rw [hL'] at HE
            obtain ⟨q, hq⟩ : ∃ q : Nat, a + 1 + lenT m = q := ⟨_, rfl⟩
            rw [endT_yes hsel, show (((a + 1 : Nat)) : Int) = (a : Int) + 1 by omega, hq] at h1
            rw [hq] at HE
            have H1 := Lib.hid (fun w => h1 w hLL (by rw [← hL']; omega) (by omega))
            have H2 := Lib.hid (fun w => ih L' q w hLL (by rw [← hL']; omega) (by omega))
            have hQ0 : decide ((q : Int) < 0) = false := decide_eq_false (by omega)
            generalize (q : Int) = Q at *
            clear hp hpc ih h1 hsel hL' hb hd hdd hby hbd hne ha hde hD hdD hLI hL hLL hd5 hin hlp hq
            go_enter Tryd.func22, Tryd.ntmps22
            go_wp2_with (go_at_call 12; (with_reducible refine (HI.out _).mono ?_); rintro e w' ⟨rfl, rfl⟩; refine Hid.out ?_)
            refine Lib.hid ?_
            generalize wrap64 (s[a].toNat : Int) = cb at *
            generalize (s[a].toNat : Int) = ca at *
            clear hwd
            go_wp2_with fail
            rw [HO.out]
            refine (H1.out _).mono ?_
            rintro e w1 ⟨rfl, hb1⟩
            go_wp2_with fail
            refine (H2.out _).mono ?_
            rintro e w2 ⟨rfl, hb2⟩
            go_wp2_with fail
            go_ret
            exact ⟨by rw [HE.out]; rfl, chain hb1 (Nat.le_refl _) hb2⟩
        · have HE := Lib.hid (endT_stop (s := s) (m := m) (L := L) (a := a) hdd (.inl fun h => hb h.2))
          have hB0 : (bits .and .i64 (LI / 2 ^ D.toNat) 1 == 0) = true := by
            have h2 := dig_lt L d
            rw [HB.out, show dig L d = 0 by omega]; rfl
          clear hp ih hb hd hdd hby hbd hne ha hde hD hdD hLI hL hd5 HB
          go_enter Tryd.func22, Tryd.ntmps22
          go_wp2_with (go_at_call 12; (with_reducible refine (HI.out _).mono ?_); rintro e w' ⟨rfl, rfl⟩; refine Hid.out ?_)
          refine Lib.hid ?_
          generalize wrap64 (s[a].toNat : Int) = cb at *
          generalize (s[a].toNat : Int) = ca at *
          clear hwd
          go_wp2_with fail
          go_ret
          exact ⟨by rw [HE.out]; rfl, Below.refl _ _⟩
      · obtain ⟨d, hdd⟩ : ∃ d : Nat, dgt s a = d := ⟨_, rfl⟩
        have HE := Lib.hid (endT_stop (s := s) (m := m) (L := L) (a := a) hdd (.inl fun h => hd h.1))
        obtain ⟨D, hD⟩ : ∃ D : Int, (s[a].toNat : Int) - 48 = D := ⟨_, rfl⟩
        obtain ⟨LI, hLI⟩ : ∃ LI : Int, (L : Int) = LI := ⟨_, rfl⟩
        have HI := Lib.hid (fun w => l01In_no D 0 4 w (by omega))
        have hwd : wrap64 (wrap64 (s[a].toNat : Int) - 48) = D := by
          rw [← hby] at hD ⊢
          have e : wrap64 (byteAt s a) = byteAt s a := IntWalk.wrap64_in _ (by omega)
          rw [e, hD, IntWalk.wrap64_in _ (by omega)]
        rw [hLI] at hz ⊢
        clear hp ih hd hdd hby hbd hne ha hD hLI hL
        go_enter Tryd.func22, Tryd.ntmps22
        go_wp2_with (go_at_call 12; (with_reducible refine (HI.out _).mono ?_); rintro e w' ⟨rfl, rfl⟩; refine Hid.out ?_)
        refine Lib.hid ?_
        generalize wrap64 (s[a].toNat : Int) = cb at *
        generalize (s[a].toNat : Int) = ca at *
        clear hwd
        go_wp2_with fail
        go_ret
        exact ⟨by rw [HE.out]; rfl, Below.refl _ _⟩
    · rw [endT_no (by cases h : selAt s (m + 1) L a; rfl; have := selAt_in h; have := lenT_pos (m + 1); omega)]
      exact l09End_out s a L w hs hge

theorem l09End_zero (s : ByteArray) (hs : s.size ≤ 1048576) (m L : Nat) (w : World) (hL : L < 32) (hp : pcN L = m) :
    Calls Tryd.prog 22 #[.string s, .int .i64 0, .int .i64 (L : Int)] w fun e w' => e = .returned (.int .i64 (endT s m L 0)) ∧ Below w.heap.size w w' :=
  l09End_any s hs m L 0 w hL hp (Nat.zero_le _)

set_option maxRecDepth 100000 in
set_option maxHeartbeats 1000000 in
theorem l09Is_any (n : Int) (s : ByteArray) (w : World) (hs : s.size ≤ 1048576) :
    Calls Tryd.prog 16 #[.int .i64 n, .string s] w fun e w' => e = .returned (.bool (isSel n s)) ∧ Below w.heap.size w w' := by
  by_cases h : 1 ≤ n ∧ n ≤ 5
  · have HI := Lib.hid (fun w => l01In_yes n 1 5 w h)
    have HR := Lib.hid (fun w => l01Rows_any n w h.1 h.2)
    have hb := rcZ_bd h.1 h.2
    have hL : 2 ^ n.toNat - 1 < 32 := by have : rcZ n = ((2 ^ n.toNat : Nat) : Int) := rfl; omega
    have hp : pcN (2 ^ n.toNat - 1) = n.toNat := pc_full ⟨n.toNat, by omega⟩
    have HE := Lib.hid (fun w => l09End_zero s hs n.toNat (2 ^ n.toNat - 1) w hL hp)
    obtain ⟨R, hR⟩ : ∃ R : Int, rcZ n = R := ⟨_, rfl⟩
    have hR1 : ((2 ^ n.toNat - 1 : Nat) : Int) = R - 1 := by rw [← hR]; unfold rcZ; have := Nat.two_pow_pos n.toNat; omega
    rw [hR1] at HE
    rw [hR] at HR hb
    have HS : Hid ((endT s n.toNat (2 ^ n.toNat - 1) 0 == (s.size : Int)) = isSel n s) := by
      unfold Hid isSel endT
      rw [decide_eq_true h, Bool.true_and]
      cases hsel : selAt s n.toNat (2 ^ n.toNat - 1) 0
      · rw [if_neg (by decide), Bool.and_false]
        rw [beq_eq_false_iff_ne]; omega
      · rw [if_pos rfl, Nat.zero_add, Bool.and_true, Bool.eq_iff_iff]
        simp only [beq_iff_eq, decide_eq_true_eq]; omega
    generalize endT s n.toNat (2 ^ n.toNat - 1) 0 = E at *
    obtain ⟨h1, h5⟩ := h
    clear hR hR1 hL hp
    go_enter Tryd.func16, Tryd.ntmps16
    go_wp2_with (first | (go_at_call 12; (with_reducible refine (HI.out _).mono ?_); rintro e w' ⟨rfl, rfl⟩) | (go_at_call 23; (with_reducible refine (HR.out _).mono ?_); rintro e w' ⟨rfl, rfl⟩) | (go_at_call 22; (with_reducible refine (HE.out _).mono ?_); rintro e w1 ⟨rfl, hb1⟩))
    go_ret
    exact ⟨by rw [← HS.out]; rfl, hb1⟩
  · have HI := Lib.hid (fun w => l01In_no n 1 5 w h)
    rw [isSel_no h]
    clear h
    go_enter Tryd.func16, Tryd.ntmps16
    go_wp2_with (first | (go_at_call 12; (with_reducible refine (HI.out _).mono ?_); rintro e w' ⟨rfl, rfl⟩))
    go_ret
    exact ⟨rfl, Below.refl _ _⟩

end Go.Proofs.YtbliibcfnfgdmaaDoor
