/- Terminals that are joined: plain mathematics. -/
import Derived.Test.YtkdidplpnhokiaaClosedM
namespace Go.Proofs.Ytkdidplpnhokiaa.JW
open Go.Proofs.Ytkdidplpnhokiaa
open Go.RowKit
set_option linter.unusedVariables false

/-- both points of the contact i, by bits -/
def pairN (xss : List (List Int)) (i : Nat) : Nat := 2 ^ ((xss.getD i []).getD 0 0).toNat ||| 2 ^ ((xss.getD i []).getD 1 0).toNat
/-- one contact more looked at -/
def stepJ (xss : List (List Int)) (cl : Nat → Bool) (S i : Nat) : Nat := if cl i = true ∧ S &&& pairN xss i ≠ 0 then S ||| pairN xss i else S
/-- the first k contacts looked at once -/
def passJ (xss : List (List Int)) (cl : Nat → Bool) (S : Nat) : Nat → Nat
  | 0 => S
  | k + 1 => stepJ xss cl (passJ xss cl S k) k
/-- F done m times -/
def iter (F : Nat → Nat) (s : Nat) : Nat → Nat
  | 0 => s
  | m + 1 => F (iter F s m)
theorem iter_fix {F : Nat → Nat} {s r m : Nat} (hr : r = iter F s m) (hf : F r = r) (k : Nat) (hk : m ≤ k) : iter F s k = r := by
  induction k with
  | zero => have : m = 0 := by omega
            subst this; exact hr.symm
  | succ k ih =>
    rcases Nat.lt_or_ge m (k + 1) with h | h
    · show F (iter F s k) = r
      rw [ih (by omega), hf]
    · have : m = k + 1 := by omega
      subst this; exact hr.symm
theorem stepJ_ge (xss : List (List Int)) (cl : Nat → Bool) (S i : Nat) : S ≤ stepJ xss cl S i := by
  unfold stepJ; split
  · exact Nat.left_le_or
  · exact Nat.le_refl _
theorem passJ_ge (xss : List (List Int)) (cl : Nat → Bool) (S k : Nat) : S ≤ passJ xss cl S k := by
  induction k with
  | zero => exact Nat.le_refl _
  | succ k ih => exact Nat.le_trans ih (stepJ_ge _ _ _ _)
/-- points of contacts lie below 22 -/
def Pts22 (xss : List (List Int)) : Prop := ∀ i, i < xss.length → (0 ≤ (xss.getD i []).getD 0 0 ∧ (xss.getD i []).getD 0 0 < 22) ∧ (0 ≤ (xss.getD i []).getD 1 0 ∧ (xss.getD i []).getD 1 0 < 22)
theorem net_pts {p : Int} {xss : List (List Int)} (h : Net p xss) : Pts22 xss := fun i hi => by
  have := (h.2.2.2 i hi).1
  unfold Con at this
  have := h.2.1
  omega
theorem pairN_lt {xss : List (List Int)} (h : Pts22 xss) {i : Nat} (hi : i < xss.length) : pairN xss i < 4194304 := by
  obtain ⟨h1, h2⟩ := h i hi
  unfold pairN
  exact Nat.or_lt_two_pow (n := 22) (Nat.pow_lt_pow_right (by decide) (by omega)) (Nat.pow_lt_pow_right (by decide) (by omega))
theorem passJ_lt {xss : List (List Int)} (h : Pts22 xss) (cl : Nat → Bool) {S : Nat} (hS : S < 4194304) {k : Nat} (hk : k ≤ xss.length) : passJ xss cl S k < 4194304 := by
  induction k with
  | zero => exact hS
  | succ k ih =>
    show stepJ xss cl _ k < 4194304
    unfold stepJ
    split
    · exact Nat.or_lt_two_pow (n := 22) (ih (by omega)) (pairN_lt h (by omega))
    · exact ih (by omega)
/-- the points joined with the point p, by bits -/
def joinS (xss : List (List Int)) (cl : Nat → Bool) (p : Nat) : Nat := iter (fun S => passJ xss cl S xss.length) (2 ^ p) 4194304
theorem iter_lt {xss : List (List Int)} (h : Pts22 xss) (cl : Nat → Bool) {s : Nat} (hs : s < 4194304) (m : Nat) : iter (fun S => passJ xss cl S xss.length) s m < 4194304 := by
  induction m with
  | zero => exact hs
  | succ m ih => exact passJ_lt h cl ih (Nat.le_refl _)
theorem joinS_lt {xss : List (List Int)} (h : Pts22 xss) (cl : Nat → Bool) {p : Nat} (hp : p < 22) : joinS xss cl p < 4194304 :=
  iter_lt h cl (Nat.pow_lt_pow_right (by decide) hp) _
/-- how far the search has come: S is one of its sets, the m-th, m at most S -/
def OnWay (xss : List (List Int)) (cl : Nat → Bool) (p S : Nat) : Prop := 0 < S ∧ S < 4194304 ∧ ∃ m, m ≤ S ∧ S = iter (fun S => passJ xss cl S xss.length) (2 ^ p) m
theorem OnWay.start {xss : List (List Int)} {cl : Nat → Bool} {p : Nat} (hp : p < 22) : OnWay xss cl p (2 ^ p) :=
  ⟨Nat.pow_pos (by decide), Nat.pow_lt_pow_right (by decide) hp, 0, Nat.zero_le _, rfl⟩
theorem OnWay.next {xss : List (List Int)} {cl : Nat → Bool} {p S : Nat} (h : OnWay xss cl p S) (h8 : Pts22 xss) : OnWay xss cl p (passJ xss cl S xss.length) := by
  obtain ⟨h0, h1, m, hm, he⟩ := h
  have hge := passJ_ge xss cl S xss.length
  refine ⟨by omega, passJ_lt h8 cl h1 (Nat.le_refl _), ?_⟩
  by_cases e : passJ xss cl S xss.length = S
  · exact ⟨m, by omega, by rw [e]; exact he⟩
  · exact ⟨m + 1, by omega, by show _ = passJ xss cl (iter _ _ m) _; rw [← he]⟩
theorem OnWay.done {xss : List (List Int)} {cl : Nat → Bool} {p S : Nat} (h : OnWay xss cl p S) (hf : passJ xss cl S xss.length = S) : joinS xss cl p = S := by
  obtain ⟨_, h1, m, hm, he⟩ := h
  exact iter_fix he hf 4194304 (by omega)

theorem stepJ_hit {xss : List (List Int)} {cl : Nat → Bool} {S i : Nat} (h1 : cl i = true) (h2 : S &&& pairN xss i ≠ 0) : stepJ xss cl S i = S ||| pairN xss i := by unfold stepJ; rw [if_pos ⟨h1, h2⟩]
theorem stepJ_out {xss : List (List Int)} {cl : Nat → Bool} {S i : Nat} (h1 : cl i = false) : stepJ xss cl S i = S := by unfold stepJ; rw [if_neg (by rw [h1]; simp)]
theorem stepJ_miss {xss : List (List Int)} {cl : Nat → Bool} {S i : Nat} (h2 : S &&& pairN xss i = 0) : stepJ xss cl S i = S := by unfold stepJ; rw [if_neg (fun h => h.2 h2)]

/-! ### the same step, told by the digits of both points -/
theorem pow_testBit (a j : Nat) : (2 ^ a).testBit j = decide (a = j) := Nat.testBit_two_pow
theorem tb0 {S a : Nat} (h : dig S a = 0) : S.testBit a = false := by
  rw [dig_testBit] at h
  cases hh : S.testBit a
  · rfl
  · rw [hh] at h; cases h
theorem tb1 {S a : Nat} (h : dig S a = 1) : S.testBit a = true := by
  rw [dig_testBit] at h
  cases hh : S.testBit a
  · rw [hh] at h; cases h
  · rfl
theorem pair_zero {S a b : Nat} (ha : dig S a = 0) (hb : dig S b = 0) : S &&& (2 ^ a ||| 2 ^ b) = 0 := by
  apply Nat.eq_of_testBit_eq
  intro j
  have h1 : S.testBit a = false := tb0 ha
  have h2 : S.testBit b = false := tb0 hb
  simp only [Nat.testBit_and, Nat.testBit_or, pow_testBit, Nat.zero_testBit]
  by_cases e1 : a = j
  · subst e1; simp [h1]
  · by_cases e2 : b = j
    · subst e2; simp [h2]
    · simp [e1, e2]
theorem pair_one {S a b : Nat} (h : dig S a = 1 ∨ dig S b = 1) : S &&& (2 ^ a ||| 2 ^ b) ≠ 0 := by
  intro e
  rcases h with h | h
  · have h1 : S.testBit a = true := tb1 h
    have := congrArg (fun x => x.testBit a) e
    simp [Nat.testBit_and, Nat.testBit_or, pow_testBit, h1] at this
  · have h1 : S.testBit b = true := tb1 h
    have := congrArg (fun x => x.testBit b) e
    simp [Nat.testBit_and, Nat.testBit_or, pow_testBit, h1] at this
theorem pair_both {S a b : Nat} (ha : dig S a = 1) (hb : dig S b = 1) : S ||| (2 ^ a ||| 2 ^ b) = S := by
  apply Nat.eq_of_testBit_eq
  intro j
  have h1 : S.testBit a = true := tb1 ha
  have h2 : S.testBit b = true := tb1 hb
  simp only [Nat.testBit_or, pow_testBit]
  by_cases e1 : a = j
  · subst e1; simp [h1]
  · by_cases e2 : b = j
    · subst e2; simp [h2]
    · simp [e1, e2]
theorem or_gt {S a : Nat} {P : Nat} (ha : dig S a = 0) (hP : P.testBit a = true) : S < S ||| P := by
  rcases Nat.lt_or_ge S (S ||| P) with h | h
  · exact h
  · have e : S ||| P = S := Nat.le_antisymm h Nat.left_le_or
    have h1 : S.testBit a = false := tb0 ha
    have := congrArg (fun x => x.testBit a) e
    simp [Nat.testBit_or, hP, h1] at this
theorem stepJ_same {xss : List (List Int)} {cl : Nat → Bool} {S i : Nat} (h : dig S ((xss.getD i []).getD 0 0).toNat = dig S ((xss.getD i []).getD 1 0).toNat) : stepJ xss cl S i = S := by
  have hl := dig_lt S ((xss.getD i []).getD 0 0).toNat
  have h01 : dig S ((xss.getD i []).getD 0 0).toNat = 0 ∨ dig S ((xss.getD i []).getD 0 0).toNat = 1 := by omega
  rcases h01 with e | e
  · exact stepJ_miss (pair_zero e (by omega))
  · unfold stepJ; split
    · exact pair_both e (by omega)
    · rfl
theorem stepJ_diff {xss : List (List Int)} {cl : Nat → Bool} {S i : Nat} (hc : cl i = true) (h : dig S ((xss.getD i []).getD 0 0).toNat ≠ dig S ((xss.getD i []).getD 1 0).toNat) : stepJ xss cl S i = S ||| pairN xss i ∧ S < stepJ xss cl S i := by
  have hl := dig_lt S ((xss.getD i []).getD 0 0).toNat
  have hl2 := dig_lt S ((xss.getD i []).getD 1 0).toNat
  have e := stepJ_hit (xss := xss) hc (pair_one (S := S) (a := ((xss.getD i []).getD 0 0).toNat) (b := ((xss.getD i []).getD 1 0).toNat) (by omega))
  refine ⟨e, ?_⟩
  rw [e]
  by_cases h0 : dig S ((xss.getD i []).getD 0 0).toNat = 0
  · exact or_gt h0 (by simp [pairN, Nat.testBit_or, pow_testBit])
  · exact or_gt (a := ((xss.getD i []).getD 1 0).toNat) (by omega) (by simp [pairN, Nat.testBit_or, pow_testBit])
theorem i64_pair {x0 x1 : Int} (h0 : 0 ≤ x0 ∧ x0 < 22) (h1 : 0 ≤ x1 ∧ x1 < 22) : bits .or .i64 (wrap64 (2 ^ x0.toNat)) (wrap64 (2 ^ x1.toNat)) = ((2 ^ x0.toNat ||| 2 ^ x1.toNat : Nat) : Int) := by
  have e0 : (2 : Nat) ^ x0.toNat < 2 ^ 22 := Nat.pow_lt_pow_right (by decide) (by omega)
  have e1 : (2 : Nat) ^ x1.toNat < 2 ^ 22 := Nat.pow_lt_pow_right (by decide) (by omega)
  rw [pow_walk _ (by omega), pow_walk _ (by omega)]
  exact i64_or _ _ (by omega) (by omega)

theorem and_small {a b : Nat} (ha : a < 4194304) (hb : b < 4194304) : bits .and .i64 (a : Int) (b : Int) = ((a &&& b : Nat) : Int) := i64_and a b (by omega) (by omega)
theorem or_small {a b : Nat} (ha : a < 4194304) (hb : b < 4194304) : bits .or .i64 (a : Int) (b : Int) = ((a ||| b : Nat) : Int) := i64_or a b (by omega) (by omega)
theorem and_yes {a b : Nat} (ha : a < 4194304) (hb : b < 4194304) (h : a &&& b ≠ 0) : (bits .and .i64 (a : Int) (b : Int) != 0) = true := by
  rw [and_small ha hb]; simp; omega
theorem and_no {a b : Nat} (ha : a < 4194304) (hb : b < 4194304) (h : a &&& b = 0) : (bits .and .i64 (a : Int) (b : Int) != 0) = false := by
  rw [and_small ha hb, h]; rfl
theorem meas_lt {S S' T : Nat} (h : S ≤ S') (h2 : S' < 4194304) (hne : S ≠ T) :
    2 * (4194304 - (intOf (.int .i64 (S' : Int))).toNat) + (if intOf (.int .i64 (S' : Int)) = intOf (.int .i64 (S : Int)) then 0 else 1) < 2 * (4194304 - (intOf (.int .i64 (S : Int))).toNat) + (if intOf (.int .i64 (S : Int)) = intOf (.int .i64 (T : Int)) then 0 else 1) := by
  have e1 : ¬ intOf (.int .i64 (S : Int)) = intOf (.int .i64 (T : Int)) := by simp only [intOf]; omega
  rw [if_neg e1]
  by_cases e2 : S' = S
  · rw [e2, if_pos rfl]; omega
  · have e3 : ¬ intOf (.int .i64 (S' : Int)) = intOf (.int .i64 (S : Int)) := by simp only [intOf]; omega
    rw [if_neg e3]
    simp only [intOf, Int.toNat_natCast]
    omega

end Go.Proofs.Ytkdidplpnhokiaa.JW
