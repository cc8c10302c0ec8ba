/- LetterTable: the program's and the model's. -/
import Derived.Test.YtbliibcfnfgdmaaSPart
namespace Go.Proofs.Ytbliibcfnfgdmaa
open Go.RowKit
set_option linter.unusedVariables false

/-- the values of the letter of an input -/
def letVals (n i : Int) : Int := buildZ (fun j => dig j i.toNat) (2 ^ n.toNat)
theorem let_step (i : Int) (k : Nat) (hk : k < 32) :
    bits .or .i64 (buildZ (fun j => dig j i.toNat) k) (wrap64 (digZ (k : Int) i * 2 ^ k)) = buildZ (fun j => dig j i.toNat) (k + 1) := by
  have hb := build_lt (fun j => dig j i.toNat) k
  have hp : 2 ^ k < 2 ^ 32 := Nat.pow_lt_pow_right (by decide) hk
  have hd := dig_lt k i.toNat
  have e : digZ (k : Int) i * 2 ^ k = ((dig k i.toNat * 2 ^ k : Nat) : Int) := by
    unfold digZ; rw [Int.toNat_natCast]; simp
  have hm : dig k i.toNat * 2 ^ k < 2 ^ 33 := by
    have : dig k i.toNat * 2 ^ k ≤ 1 * 2 ^ k := Nat.mul_le_mul_right _ (by omega)
    omega
  rw [e, IntWalk.wrap64_in _ (by omega)]
  unfold buildZ
  rw [i64_or _ _ (by omega) (by omega)]
  have := build_or (fun j => dig j i.toNat) k
  simp only [dig_mod] at this
  rw [this]
/-- what LetterTable gives -/
def letRes (n i : Int) : Value := if (1 ≤ n ∧ n ≤ 5) ∧ 0 ≤ i ∧ i < n then .tuple #[.agg #[.int .i64 n, .int .i64 (letVals n i)], .int .i64 0] else .tuple #[.agg #[.int .i64 0, .int .i64 0], .int .i64 2]
theorem letRes_cases (n i : Int) : ∃ a b c : Int, letRes n i = .tuple #[.agg #[.int .i64 a, .int .i64 b], .int .i64 c] := by
  unfold letRes; split <;> exact ⟨_, _, _, rfl⟩

set_option maxRecDepth 100000 in
set_option maxHeartbeats 1000000 in
theorem iLetterTable_any (n i : Int) (w : World) :
    Calls Try.prog 93 #[.int .i64 n, .int .i64 i] w fun e w' => e = .returned (letRes n i) ∧ Below w.heap.size w w' := by
  have k0 : C2 (w.alloc (.cells #[.int .i64 0, .int .i64 0] 53)) (w.heap.size) (.int .i64 0) (.int .i64 0) := by simpa using C2.here w (.int .i64 0) (.int .i64 0) 53
  by_cases hn : 1 ≤ n ∧ n ≤ 5
  · by_cases hi : 0 ≤ i ∧ i < n
    · have hr : Hid (letRes n i = .tuple #[.agg #[.int .i64 n, .int .i64 (letVals n i)], .int .i64 0]) := by unfold Hid letRes; rw [if_pos ⟨hn, hi⟩]
      have Hi := Lib.hid hi
      obtain ⟨n1, n5⟩ := hn
      obtain ⟨i0, in_⟩ := hi
      have Hr : Hid (rcZ n = ((2 ^ n.toNat : Nat) : Int)) := rfl
      have hr5 := rcZ_bd n1 n5
      go_enter Try.func93, Try.ntmps93
      go_wp2_with (first | (go_at_call 50; (with_reducible refine (isInputCount_yes _ _ n1 n5).mono ?_); rintro e w' ⟨rfl, rfl⟩) | (go_at_call 58; (with_reducible refine (isBelow_yes _ _ _ Hi.out).mono ?_); rintro e w' ⟨rfl, rfl⟩) | (go_at_call 51; (with_reducible refine (rowCount_any _ _ n1 n5).mono ?_); rintro e w' ⟨rfl, rfl⟩))
      have k1 : C2 ((w.alloc (.cells #[.int .i64 0, .int .i64 0] 53)).alloc (.cells #[.int .i64 n, .int .i64 0] 53)) (w.heap.size + 1) (.int .i64 n) (.int .i64 0) := by simpa using C2.here (w.alloc (.cells #[.int .i64 0, .int .i64 0] 53)) (.int .i64 n) (.int .i64 0) 53
      go_loopw [22] (fun c wr => ∃ k : Nat, (k : Int) ≤ rcZ n ∧ c = .int .i64 (k : Int) ∧ Below w.heap.size w wr ∧ C2 wr w.heap.size (.int .i64 0) (.int .i64 0) ∧ C2 wr (w.heap.size + 1) (.int .i64 n) (.int .i64 (buildZ (fun j => dig j i.toNat) k)))
        (fun c _ => (rcZ n - intOf c).toNat)
      case atStart => exact ⟨0, by omega, rfl, by go_grown, k0.alloc _, k1⟩
      case round =>
        clear k0 k1
        obtain ⟨k, hk, rfl, hL, k0, k1⟩ := hrel
        by_cases hlt : (k : Int) < rcZ n
        · have Hs := Lib.hid (let_step i k (by omega))
          go_wp2_with fail
          go_region_with ((go_at_call 84; (with_reducible refine (digitAt_any _ _ _ (by omega) (by omega) i0 (by omega)).mono ?_); rintro e w' ⟨rfl, rfl⟩))
          all_goals (go_wp2_with fail)
          all_goals (rw [Hs.out]; exact ⟨⟨k + 1, by omega, by go_num, by go_grown, k0.set _ _ _ (by omega), k1.put1 _⟩, by simp [intOf]; omega⟩)
        · have Hk : Hid ((k : Nat) = 2 ^ n.toNat) := by have := Hr.out; unfold Hid; omega
          rw [Hk.out] at k1
          go_wp2_with fail
          refine bodyPost_ret (v := .tuple #[.agg #[.int .i64 n, .int .i64 (buildZ (fun j => dig j i.toNat) (2 ^ n.toNat))], .int .i64 0]) (by simp [results, Try.results93, go_sem, *]) rfl ?_
          exact ⟨by rw [hr.out]; rfl, by go_grown⟩
    · have hr : Hid (letRes n i = .tuple #[.agg #[.int .i64 0, .int .i64 0], .int .i64 2]) := by unfold Hid letRes; rw [if_neg (fun h => hi h.2)]
      have Hi := Lib.hid hi
      obtain ⟨n1, n5⟩ := hn
      clear hi
      go_enter Try.func93, Try.ntmps93
      go_wp2_with (first | (go_at_call 50; (with_reducible refine (isInputCount_yes _ _ n1 n5).mono ?_); rintro e w' ⟨rfl, rfl⟩) | (go_at_call 58; (with_reducible refine (isBelow_no _ _ _ Hi.out).mono ?_); rintro e w' ⟨rfl, rfl⟩))
      refine bodyPost_ret (v := .tuple #[.agg #[.int .i64 0, .int .i64 0], .int .i64 2]) (by simp [results, Try.results93, go_sem, *]) rfl ?_
      exact ⟨by rw [hr.out], by go_grown⟩
  · have hr : Hid (letRes n i = .tuple #[.agg #[.int .i64 0, .int .i64 0], .int .i64 2]) := by unfold Hid letRes; rw [if_neg (fun h => hn h.1)]
    have Hn : Hid (n < 1 ∨ 5 < n) := by unfold Hid; omega
    clear hn
    go_enter Try.func93, Try.ntmps93
    go_wp2_with (first | (go_at_call 50; (with_reducible refine (isInputCount_no _ _ Hn.out).mono ?_); rintro e w' ⟨rfl, rfl⟩))
    refine bodyPost_ret (v := .tuple #[.agg #[.int .i64 0, .int .i64 0], .int .i64 2]) (by simp [results, Try.results93, go_sem, *]) rfl ?_
    exact ⟨by rw [hr.out], by go_grown⟩

end Go.Proofs.Ytbliibcfnfgdmaa
