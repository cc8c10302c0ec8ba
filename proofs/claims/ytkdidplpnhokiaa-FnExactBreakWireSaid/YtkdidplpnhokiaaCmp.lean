/- Two lists of numbers compared: the program's and the model's. -/
import Derived.Test.YtkdidplpnhokiaaNetC
namespace Go.Proofs.Ytkdidplpnhokiaa
open Go.RowKit
set_option linter.unusedVariables false

theorem cmpZ_b (x y : Int) (w : World) {z : Int} (h : cmpZ x y = z) : Calls Try.prog 116 #[.int .i64 x, .int .i64 y] w fun e w' => e = .returned (.int .i64 z) ∧ w = w' := by
  have := cmpZ_any x y w
  rwa [h] at this
theorem cmpL_end1 {xs ys : List Int} {k : Nat} (hx : xs.length ≤ k) (hy : k < ys.length) : cmpL (xs.drop k) (ys.drop k) = -1 := by
  rw [List.drop_of_length_le hx, List.drop_eq_getElem_cons hy]; rfl
theorem cmpL_end2 {xs ys : List Int} {k : Nat} (hx : k < xs.length) (hy : ys.length ≤ k) : cmpL (xs.drop k) (ys.drop k) = 1 := by
  rw [List.drop_of_length_le hy, List.drop_eq_getElem_cons hx]; rfl
theorem cmpL_end0 {xs ys : List Int} {k : Nat} (hx : xs.length ≤ k) (hy : ys.length ≤ k) : cmpL (xs.drop k) (ys.drop k) = 0 := by
  rw [List.drop_of_length_le hx, List.drop_of_length_le hy]; rfl

set_option maxHeartbeats 1000000 in
theorem compare_mem (b off ca b' off' cb n m : Nat) (xs ys : List Int) (w : World) (hn : xs.length = n) (hm : ys.length = m) (n63 : n ≤ 9223372036854775807) (m63 : m ≤ 9223372036854775807)
    (ha : ∀ i, i < n → w.cell? ⟨b, off + i, none⟩ = some (.int .i64 (xs.getD i 0))) (hb : ∀ i, i < m → w.cell? ⟨b', off' + i, none⟩ = some (.int .i64 (ys.getD i 0))) :
    Calls Try.prog 64 #[.slice (some ⟨b, off, none⟩) n ca, .slice (some ⟨b', off', none⟩) m cb] w fun e w' => e = .returned (.int .i64 (cmpL xs ys)) ∧ w = w' := by
  have Ha := Lib.hid ha
  have Hb := Lib.hid hb
  have Hn := Lib.hid hn
  have Hm := Lib.hid hm
  clear ha hb hn hm
  go_enter Try.func64, Try.ntmps64
  go_wp2_with fail
  go_loop [11] (fun c => ∃ k : Nat, k ≤ n ∧ k ≤ m ∧ c = .int .i64 (k : Int) ∧ Hid (cmpL xs ys = cmpL (xs.drop k) (ys.drop k))) (fun c => n - (intOf c).toNat)
  case atStart => exact ⟨0, Nat.zero_le _, Nat.zero_le _, rfl, by unfold Hid; simp⟩
  case round =>
    obtain ⟨k, hk, hkm, rfl, HC⟩ := hrel
    by_cases hlt : k < n
    · have hca := Ha.out k hlt
      have hi1 : (k : Int) < (n : Int) := by omega
      have hi0 : (0 : Int) ≤ (k : Int) := by omega
      by_cases hlm : k < m
      · have hcb := Hb.out k hlm
        have hi2 : (k : Int) < (m : Int) := by omega
        have HD := Lib.hid (cmpL_drop (xs := xs) (ys := ys) (k := k) (by rw [Hn.out]; exact hlt) (by rw [Hm.out]; exact hlm))
        generalize xs.getD k 0 = x at *
        generalize ys.getD k 0 = y at *
        by_cases h1 : x < y
        · have hr : Hid (cmpL xs ys = -1) := by unfold Hid; rw [HC.out, HD.out, if_pos h1]
          have hz : Hid (cmpZ x y = -1) := by unfold Hid cmpZ; rw [if_pos h1]
          clear h1
          go_wp2_with (go_at_call 116; (with_reducible refine (cmpZ_b _ _ _ hz.out).mono ?_); rintro e w' ⟨rfl, rfl⟩)
          go_ret
          exact ⟨by rw [hr.out]; rfl, rfl⟩
        · by_cases h2 : y < x
          · have hr : Hid (cmpL xs ys = 1) := by unfold Hid; rw [HC.out, HD.out, if_neg h1, if_pos h2]
            have hz : Hid (cmpZ x y = 1) := by unfold Hid cmpZ; rw [if_neg h1, if_pos h2]
            clear h1 h2
            go_wp2_with (go_at_call 116; (with_reducible refine (cmpZ_b _ _ _ hz.out).mono ?_); rintro e w' ⟨rfl, rfl⟩)
            go_ret
            exact ⟨by rw [hr.out]; rfl, rfl⟩
          · have hr : Hid (cmpL xs ys = cmpL (xs.drop (k + 1)) (ys.drop (k + 1))) := by unfold Hid; rw [HC.out, HD.out, if_neg h1, if_neg h2]
            have hz : Hid (cmpZ x y = 0) := by unfold Hid cmpZ; rw [if_neg h1, if_neg h2]
            clear h1 h2
            go_wp2_with (go_at_call 116; (with_reducible refine (cmpZ_b _ _ _ hz.out).mono ?_); rintro e w' ⟨rfl, rfl⟩)
            go_round
            case rel => exact ⟨k + 1, by omega, by omega, by go_num, hr⟩
            case measure => simp [intOf]; omega
      · have hi2 : (m : Int) ≤ (k : Int) := by omega
        have hr : Hid (cmpL xs ys = 1) := by unfold Hid; rw [HC.out, cmpL_end2 (by rw [Hn.out]; exact hlt) (by rw [Hm.out]; omega)]
        go_wp2_with fail
        go_ret
        exact ⟨by rw [hr.out]; rfl, rfl⟩
    · have e : k = n := by omega
      subst e
      by_cases hlm : k < m
      · have hi2 : (k : Int) < (m : Int) := by omega
        have hr : Hid (cmpL xs ys = -1) := by unfold Hid; rw [HC.out, cmpL_end1 (by rw [Hn.out]; omega) (by rw [Hm.out]; exact hlm)]
        go_wp2_with fail
        go_ret
        exact ⟨by rw [hr.out]; rfl, rfl⟩
      · have hi2 : (m : Int) ≤ (k : Int) := by omega
        have hr : Hid (cmpL xs ys = 0) := by unfold Hid; rw [HC.out, cmpL_end0 (by rw [Hn.out]; omega) (by rw [Hm.out]; omega)]
        go_wp2_with fail
        go_ret
        exact ⟨by rw [hr.out]; rfl, rfl⟩

/-- two contacts compared -/
theorem compare4 (va vb : Value) (xs ys : List Int) (w : World) (ha : Reads w va xs) (hb : Reads w vb ys) (lx : xs.length = 4) (ly : ys.length = 4) {z : Int} (hz : cmpL xs ys = z) :
    Calls Try.prog 64 #[va, vb] w fun e w' => e = .returned (.int .i64 z) ∧ w = w' := by
  obtain ⟨a, ca, rfl, _, ha⟩ := ha
  obtain ⟨b, cb, rfl, _, hb⟩ := hb
  rcases ha with rfl | ⟨b, off, rfl, ha⟩
  · cases lx
  · rcases hb with rfl | ⟨b', off', rfl, hb⟩
    · cases ly
    · subst hz
      exact compare_mem b off ca b' off' cb xs.length ys.length xs ys w rfl rfl (by omega) (by omega) ha hb

set_option maxHeartbeats 1000000 in
theorem before_mem (b off ca b' off' cb : Nat) (xs ys : List Int) (w : World) (hn : xs.length = 4) (hm : ys.length = 4)
    (ha : ∀ i, i < 4 → w.cell? ⟨b, off + i, none⟩ = some (.int .i64 (xs.getD i 0))) (hb : ∀ i, i < 4 → w.cell? ⟨b', off' + i, none⟩ = some (.int .i64 (ys.getD i 0))) :
    Calls Try.prog 132 #[.slice (some ⟨b, off, none⟩) 4 ca, .slice (some ⟨b', off', none⟩) 4 cb] w fun e w' => e = .returned (.bool (decide (cmpL xs ys < 0))) ∧ Below w.heap.size w w' := by
  have Ha := Lib.hid ha
  have Hb := Lib.hid hb
  have Hn := Lib.hid hn
  have Hm := Lib.hid hm
  clear ha hb hn hm
  go_enter Try.func132, Try.ntmps132
  go_wp2_with fail
  go_loopw [5] (fun c wr => ∃ k : Nat, k ≤ 4 ∧ c = .int .i64 (k : Int) ∧ Below w.heap.size w wr ∧ Hid (cmpL xs ys = cmpL (xs.drop k) (ys.drop k))) (fun c _ => 4 - (intOf c).toNat)
  case atStart => exact ⟨0, Nat.zero_le _, rfl, Below.refl _ _, by unfold Hid; simp⟩
  case round =>
    obtain ⟨k, hk, rfl, hL, HC⟩ := hrel
    by_cases hlt : k < 4
    · have hca := cell_later hL (Ha.out k hlt)
      have hcb := cell_later hL (Hb.out k hlt)
      have hi1 : (k : Int) < 4 := by omega
      have hi0 : (0 : Int) ≤ (k : Int) := by omega
      have HD := Lib.hid (cmpL_drop (xs := xs) (ys := ys) (k := k) (by rw [Hn.out]; exact hlt) (by rw [Hm.out]; exact hlt))
      generalize xs.getD k 0 = x at *
      generalize ys.getD k 0 = y at *
      by_cases h1 : x < y
      · have hr : Hid (decide (cmpL xs ys < 0) = true) := by unfold Hid; rw [HC.out, HD.out, if_pos h1]; rfl
        have d1 : (x != y) = true := by simp; omega
        have d2 : (x == y) = false := by simp; omega
        have d3 : decide (x < y) = true := decide_eq_true h1
        clear h1
        go_wp2_with fail
        go_quiet (fail)
        go_wp2_with fail
        go_quiet (fail)
        go_wp2_with fail
        go_ret
        exact ⟨by rw [hr.out]; rfl, Bdrew (Bdrew hL _) _⟩
      · by_cases h2 : y < x
        · have hr : Hid (decide (cmpL xs ys < 0) = false) := by unfold Hid; rw [HC.out, HD.out, if_neg h1, if_pos h2]; rfl
          have d1 : (x != y) = true := by simp; omega
          have d2 : (x == y) = false := by simp; omega
          have d3 : decide (x < y) = false := decide_eq_false h1
          clear h1 h2
          go_wp2_with fail
          go_quiet (fail)
          go_wp2_with fail
          go_quiet (fail)
          go_wp2_with fail
          go_ret
          exact ⟨by rw [hr.out]; rfl, Bdrew (Bdrew hL _) _⟩
        · have hr : Hid (cmpL xs ys = cmpL (xs.drop (k + 1)) (ys.drop (k + 1))) := by unfold Hid; rw [HC.out, HD.out, if_neg h1, if_neg h2]
          have d1 : (x != y) = false := by simp; omega
          have d2 : (x == y) = true := by simp; omega
          clear h1 h2
          go_wp2_with fail
          go_quiet (fail)
          go_wp2_with fail
          go_roundw
          case rel => exact ⟨k + 1, by omega, by go_num, Bdrew hL _, hr⟩
          case measure => simp [intOf]; omega
    · have e : k = 4 := by omega
      subst e
      have hr : Hid (decide (cmpL xs ys < 0) = false) := by unfold Hid; rw [HC.out, cmpL_end0 (by rw [Hn.out]; omega) (by rw [Hm.out]; omega)]; rfl
      go_wp2_with fail
      go_ret
      exact ⟨by rw [hr.out]; rfl, hL⟩

theorem before4 (va vb : Value) (xs ys : List Int) (w : World) (ha : Reads w va xs) (hb : Reads w vb ys) (lx : xs.length = 4) (ly : ys.length = 4) {z : Bool} (hz : decide (cmpL xs ys < 0) = z) :
    Calls Try.prog 132 #[va, vb] w fun e w' => e = .returned (.bool z) ∧ Below w.heap.size w w' := by
  obtain ⟨a, ca, rfl, _, ha⟩ := ha
  obtain ⟨b, cb, rfl, _, hb⟩ := hb
  rcases ha with rfl | ⟨b, off, rfl, ha⟩
  · cases lx
  · rcases hb with rfl | ⟨b', off', rfl, hb⟩
    · cases ly
    · subst hz
      rw [lx] at ha ⊢
      rw [ly] at hb ⊢
      exact before_mem b off ca b' off' cb xs ys w lx ly ha hb

end Go.Proofs.Ytkdidplpnhokiaa
