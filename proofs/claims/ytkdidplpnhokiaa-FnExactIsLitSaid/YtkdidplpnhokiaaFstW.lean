/- The model's comparing of two lists. -/
import Derived.Test.YtkdidplpnhokiaaCmp
import Derived.Test.YtkdidplpnhokiaaAt
namespace Go.Proofs.Ytkdidplpnhokiaa
open Go.RowKit
set_option linter.unusedVariables false

set_option maxHeartbeats 1000000 in
theorem first_mem (b off ca b' off' cb n m : Nat) (xs ys : List Int) (w : World) (hn : xs.length = n) (hm : ys.length = m) (n63 : n ≤ 9223372036854775807) (m63 : m ≤ 9223372036854775807)
    (ha : ∀ i, i < n → w.cell? ⟨b, off + i, none⟩ = some (.int .i64 (xs.getD i 0))) (hb : ∀ i, i < m → w.cell? ⟨b', off' + i, none⟩ = some (.int .i64 (ys.getD i 0))) :
    Calls Try.prog 111 #[.slice (some ⟨b, off, none⟩) n ca, .slice (some ⟨b', off', none⟩) m cb] w fun e w' => e = .returned (.bool (decide (cmpL xs ys < 0))) ∧ ∃ m, w' = w.drewN m := by
  have Ha := Lib.hid ha
  have Hb := Lib.hid hb
  have Hn := Lib.hid hn
  have Hm := Lib.hid hm
  have HZ : Hid (∃ m, w = w.drewN m) := ⟨0, rfl⟩
  clear ha hb hn hm
  go_enter Try.func111, Try.ntmps111
  go_wp2_with fail
  go_loopw [5] (fun c wr => ∃ k : Nat, k ≤ n ∧ k ≤ m ∧ c = .int .i64 (k : Int) ∧ Hid (∃ m, wr = w.drewN m) ∧ Hid (cmpL xs ys = cmpL (xs.drop k) (ys.drop k))) (fun c _ => n - (intOf c).toNat)
  case atStart => exact ⟨0, Nat.zero_le _, Nat.zero_le _, rfl, HZ, by unfold Hid; simp⟩
  case round =>
    obtain ⟨k, hk, hkm, rfl, hL, HC⟩ := hrel
    by_cases hlt : k < n
    · have hi1 : (k : Int) < (n : Int) := by omega
      have hi0 : (0 : Int) ≤ (k : Int) := by omega
      by_cases hlm : k < m
      · have hca : wr.cell? ⟨b, off + k, none⟩ = some (.int .i64 (xs.getD k 0)) := by obtain ⟨m, hm⟩ := hL.out; rw [hm]; exact Ha.out k hlt
        have hcb : wr.cell? ⟨b', off' + k, none⟩ = some (.int .i64 (ys.getD k 0)) := by obtain ⟨m, hm⟩ := hL.out; rw [hm]; exact Hb.out k hlm
        have hi2 : (k : Int) < (m : Int) := by omega
        have HD := Lib.hid (cmpL_drop (xs := xs) (ys := ys) (k := k) (by rw [Hn.out]; exact hlt) (by rw [Hm.out]; exact hlm))
        generalize xs.getD k 0 = x at *
        generalize ys.getD k 0 = y at *
        by_cases h1 : x < y
        · have hr : Hid (decide (cmpL xs ys < 0) = true) := by unfold Hid; rw [HC.out, HD.out, if_pos h1]; rfl
          have d1 : (x != y) = true := by simp; omega
          have d2 : (x == y) = false := by simp; omega
          have d3 : decide (x < y) = true := decide_eq_true h1
          clear h1
          go_wp2_with fail
          go_quiet (fail)
          go_wp2_with fail
          go_quiet (fail)
          go_wp2_with fail
          go_ret
          exact ⟨by rw [hr.out]; rfl, by obtain ⟨m, hm⟩ := hL.out; exact ⟨_, by rw [hm, World.drewN_drewN, World.drewN_drewN]⟩⟩
        · by_cases h2 : y < x
          · have hr : Hid (decide (cmpL xs ys < 0) = false) := by unfold Hid; rw [HC.out, HD.out, if_neg h1, if_pos h2]; rfl
            have d1 : (x != y) = true := by simp; omega
            have d2 : (x == y) = false := by simp; omega
            have d3 : decide (x < y) = false := decide_eq_false h1
            clear h1 h2
            go_wp2_with fail
            go_quiet (fail)
            go_wp2_with fail
            go_quiet (fail)
            go_wp2_with fail
            go_ret
            exact ⟨by rw [hr.out]; rfl, by obtain ⟨m, hm⟩ := hL.out; exact ⟨_, by rw [hm, World.drewN_drewN, World.drewN_drewN]⟩⟩
          · have hr : Hid (cmpL xs ys = cmpL (xs.drop (k + 1)) (ys.drop (k + 1))) := by unfold Hid; rw [HC.out, HD.out, if_neg h1, if_neg h2]
            have d1 : (x != y) = false := by simp; omega
            have d2 : (x == y) = true := by simp; omega
            clear h1 h2
            go_wp2_with fail
            go_quiet (fail)
            go_wp2_with fail
            go_roundw
            case rel => exact ⟨k + 1, by omega, by omega, by go_num, by obtain ⟨m, hm⟩ := hL.out; exact ⟨_, by rw [hm, World.drewN_drewN]⟩, hr⟩
            case measure => simp [intOf]; omega
      · have e : k = m := by omega
        subst e
        have hr : Hid (decide (cmpL xs ys < 0) = false) := by unfold Hid; rw [HC.out, cmpL_end2 (by rw [Hn.out]; exact hlt) (by rw [Hm.out]; omega)]; rfl
        have hd : ¬ (n : Int) < (k : Int) := by omega
        have hlm' : ¬ (k : Int) < (k : Int) := by omega
        go_wp2_with fail
        go_ret
        exact ⟨by rw [hr.out]; simp; try omega, hL.out⟩
    · have e : k = n := by omega
      subst e
      have hge : ¬ (k : Int) < (k : Int) := by omega
      by_cases hlm : k < m
      · have hr : Hid (decide (cmpL xs ys < 0) = true) := by unfold Hid; rw [HC.out, cmpL_end1 (by rw [Hn.out]; omega) (by rw [Hm.out]; exact hlm)]; rfl
        have hd : (k : Int) < (m : Int) := by omega
        go_wp2_with fail
        go_ret
        exact ⟨by rw [hr.out]; simp; try omega, hL.out⟩
      · have hr : Hid (decide (cmpL xs ys < 0) = false) := by unfold Hid; rw [HC.out, cmpL_end0 (by rw [Hn.out]; omega) (by rw [Hm.out]; omega)]; rfl
        have hd : ¬ (k : Int) < (m : Int) := by omega
        go_wp2_with fail
        go_ret
        exact ⟨by rw [hr.out]; simp; try omega, hL.out⟩

theorem first_any (va vb : Value) (xs ys : List Int) (w : World) (ha : Reads w va xs) (hb : Reads w vb ys) (lx : xs.length = 2) (ly : ys.length = 2) {z : Bool} (hz : decide (cmpL xs ys < 0) = z) :
    Calls Try.prog 111 #[va, vb] w fun e w' => e = .returned (.bool z) ∧ ∃ m, w' = w.drewN m := by
  obtain ⟨a, ca, rfl, _, ha⟩ := ha
  obtain ⟨b, cb, rfl, _, hb⟩ := hb
  rcases ha with rfl | ⟨b, off, rfl, ha⟩
  · cases lx
  · rcases hb with rfl | ⟨b', off', rfl, hb⟩
    · cases ly
    · subst hz
      exact first_mem b off ca b' off' cb xs.length ys.length xs ys w rfl rfl (by omega) (by omega) ha hb

end Go.Proofs.Ytkdidplpnhokiaa
