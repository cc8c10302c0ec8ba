/- JoWM, JoW, LvM, ClW, LvL, LvP in one text. -/
import Derived.Test.YtkdidplpnhokiaaClosedM
import Derived.Test.YtkdidplpnhokiaaCts
import Derived.Test.YtkdidplpnhokiaaNetC
import Derived.Test.YtkdidplpnhokiaaLed
import Derived.Test.YtkdidplpnhokiaaBitM
import Derived.Test.YtkdidplpnhokiaaSetsM
namespace Go.Proofs.Ytkdidplpnhokiaa
open Go.RowKit
set_option linter.unusedVariables false

namespace JW

/-- both points of the contact i, by bits -/
def pairN (xss : List (List Int)) (i : Nat) : Nat := 2 ^ ((xss.getD i []).getD 0 0).toNat ||| 2 ^ ((xss.getD i []).getD 1 0).toNat
/-- one contact more looked at -/
def stepJ (xss : List (List Int)) (cl : Nat → Bool) (S i : Nat) : Nat := if cl i = true ∧ S &&& pairN xss i ≠ 0 then S ||| pairN xss i else S
/-- the first k contacts looked at once -/
def passJ (xss : List (List Int)) (cl : Nat → Bool) (S : Nat) : Nat → Nat
  | 0 => S
  | k + 1 => stepJ xss cl (passJ xss cl S k) k
/-- F done m times -/
def iter (F : Nat → Nat) (s : Nat) : Nat → Nat
  | 0 => s
  | m + 1 => F (iter F s m)
theorem iter_fix {F : Nat → Nat} {s r m : Nat} (hr : r = iter F s m) (hf : F r = r) (k : Nat) (hk : m ≤ k) : iter F s k = r := by
  induction k with
  | zero => have : m = 0 := by omega
            subst this; exact hr.symm
  | succ k ih =>
    rcases Nat.lt_or_ge m (k + 1) with h | h
    · show F (iter F s k) = r
      rw [ih (by omega), hf]
    · have : m = k + 1 := by omega
      subst this; exact hr.symm
theorem stepJ_ge (xss : List (List Int)) (cl : Nat → Bool) (S i : Nat) : S ≤ stepJ xss cl S i := by
  unfold stepJ; split
  · exact Nat.left_le_or
  · exact Nat.le_refl _
theorem passJ_ge (xss : List (List Int)) (cl : Nat → Bool) (S k : Nat) : S ≤ passJ xss cl S k := by
  induction k with
  | zero => exact Nat.le_refl _
  | succ k ih => exact Nat.le_trans ih (stepJ_ge _ _ _ _)
/-- points of contacts lie below 22 -/
def Pts22 (xss : List (List Int)) : Prop := ∀ i, i < xss.length → (0 ≤ (xss.getD i []).getD 0 0 ∧ (xss.getD i []).getD 0 0 < 22) ∧ (0 ≤ (xss.getD i []).getD 1 0 ∧ (xss.getD i []).getD 1 0 < 22)
theorem net_pts {p : Int} {xss : List (List Int)} (h : Net p xss) : Pts22 xss := fun i hi => by
  have := (h.2.2.2 i hi).1
  unfold Con at this
  have := h.2.1
  omega
theorem pairN_lt {xss : List (List Int)} (h : Pts22 xss) {i : Nat} (hi : i < xss.length) : pairN xss i < 4194304 := by
  obtain ⟨h1, h2⟩ := h i hi
  unfold pairN
  exact Nat.or_lt_two_pow (n := 22) (Nat.pow_lt_pow_right (by decide) (by omega)) (Nat.pow_lt_pow_right (by decide) (by omega))
theorem passJ_lt {xss : List (List Int)} (h : Pts22 xss) (cl : Nat → Bool) {S : Nat} (hS : S < 4194304) {k : Nat} (hk : k ≤ xss.length) : passJ xss cl S k < 4194304 := by
  induction k with
  | zero => exact hS
  | succ k ih =>
    show stepJ xss cl _ k < 4194304
    unfold stepJ
    split
    · exact Nat.or_lt_two_pow (n := 22) (ih (by omega)) (pairN_lt h (by omega))
    · exact ih (by omega)
/-- the points joined with the point p, by bits -/
def joinS (xss : List (List Int)) (cl : Nat → Bool) (p : Nat) : Nat := iter (fun S => passJ xss cl S xss.length) (2 ^ p) 4194304
theorem iter_lt {xss : List (List Int)} (h : Pts22 xss) (cl : Nat → Bool) {s : Nat} (hs : s < 4194304) (m : Nat) : iter (fun S => passJ xss cl S xss.length) s m < 4194304 := by
  induction m with
  | zero => exact hs
  | succ m ih => exact passJ_lt h cl ih (Nat.le_refl _)
theorem joinS_lt {xss : List (List Int)} (h : Pts22 xss) (cl : Nat → Bool) {p : Nat} (hp : p < 22) : joinS xss cl p < 4194304 :=
  iter_lt h cl (Nat.pow_lt_pow_right (by decide) hp) _
/-- how far the search has come: S is one of its sets, the m-th, m at most S -/
def OnWay (xss : List (List Int)) (cl : Nat → Bool) (p S : Nat) : Prop := 0 < S ∧ S < 4194304 ∧ ∃ m, m ≤ S ∧ S = iter (fun S => passJ xss cl S xss.length) (2 ^ p) m
theorem OnWay.start {xss : List (List Int)} {cl : Nat → Bool} {p : Nat} (hp : p < 22) : OnWay xss cl p (2 ^ p) :=
  ⟨Nat.pow_pos (by decide), Nat.pow_lt_pow_right (by decide) hp, 0, Nat.zero_le _, rfl⟩
theorem OnWay.next {xss : List (List Int)} {cl : Nat → Bool} {p S : Nat} (h : OnWay xss cl p S) (h8 : Pts22 xss) : OnWay xss cl p (passJ xss cl S xss.length) := by
  obtain ⟨h0, h1, m, hm, he⟩ := h
  have hge := passJ_ge xss cl S xss.length
  refine ⟨by omega, passJ_lt h8 cl h1 (Nat.le_refl _), ?_⟩
  by_cases e : passJ xss cl S xss.length = S
  · exact ⟨m, by omega, by rw [e]; exact he⟩
  · exact ⟨m + 1, by omega, by show _ = passJ xss cl (iter _ _ m) _; rw [← he]⟩
theorem OnWay.done {xss : List (List Int)} {cl : Nat → Bool} {p S : Nat} (h : OnWay xss cl p S) (hf : passJ xss cl S xss.length = S) : joinS xss cl p = S := by
  obtain ⟨_, h1, m, hm, he⟩ := h
  exact iter_fix he hf 4194304 (by omega)

theorem stepJ_hit {xss : List (List Int)} {cl : Nat → Bool} {S i : Nat} (h1 : cl i = true) (h2 : S &&& pairN xss i ≠ 0) : stepJ xss cl S i = S ||| pairN xss i := by unfold stepJ; rw [if_pos ⟨h1, h2⟩]
theorem stepJ_out {xss : List (List Int)} {cl : Nat → Bool} {S i : Nat} (h1 : cl i = false) : stepJ xss cl S i = S := by unfold stepJ; rw [if_neg (by rw [h1]; simp)]
theorem stepJ_miss {xss : List (List Int)} {cl : Nat → Bool} {S i : Nat} (h2 : S &&& pairN xss i = 0) : stepJ xss cl S i = S := by unfold stepJ; rw [if_neg (fun h => h.2 h2)]

/-! ### the same step, told by the digits of both points -/
theorem pow_testBit (a j : Nat) : (2 ^ a).testBit j = decide (a = j) := Nat.testBit_two_pow
theorem tb0 {S a : Nat} (h : dig S a = 0) : S.testBit a = false := by
  rw [dig_testBit] at h
  cases hh : S.testBit a
  · rfl
  · rw [hh] at h; cases h
theorem tb1 {S a : Nat} (h : dig S a = 1) : S.testBit a = true := by
  rw [dig_testBit] at h
  cases hh : S.testBit a
  · rw [hh] at h; cases h
  · rfl
theorem pair_zero {S a b : Nat} (ha : dig S a = 0) (hb : dig S b = 0) : S &&& (2 ^ a ||| 2 ^ b) = 0 := by
  apply Nat.eq_of_testBit_eq
  intro j
  have h1 : S.testBit a = false := tb0 ha
  have h2 : S.testBit b = false := tb0 hb
  simp only [Nat.testBit_and, Nat.testBit_or, pow_testBit, Nat.zero_testBit]
  by_cases e1 : a = j
  · subst e1; simp [h1]
  · by_cases e2 : b = j
    · subst e2; simp [h2]
    · simp [e1, e2]
theorem pair_one {S a b : Nat} (h : dig S a = 1 ∨ dig S b = 1) : S &&& (2 ^ a ||| 2 ^ b) ≠ 0 := by
  intro e
  rcases h with h | h
  · have h1 : S.testBit a = true := tb1 h
    have := congrArg (fun x => x.testBit a) e
    simp [Nat.testBit_and, Nat.testBit_or, pow_testBit, h1] at this
  · have h1 : S.testBit b = true := tb1 h
    have := congrArg (fun x => x.testBit b) e
    simp [Nat.testBit_and, Nat.testBit_or, pow_testBit, h1] at this
theorem pair_both {S a b : Nat} (ha : dig S a = 1) (hb : dig S b = 1) : S ||| (2 ^ a ||| 2 ^ b) = S := by
  apply Nat.eq_of_testBit_eq
  intro j
  have h1 : S.testBit a = true := tb1 ha
  have h2 : S.testBit b = true := tb1 hb
  simp only [Nat.testBit_or, pow_testBit]
  by_cases e1 : a = j
  · subst e1; simp [h1]
  · by_cases e2 : b = j
    · subst e2; simp [h2]
    · simp [e1, e2]
theorem or_gt {S a : Nat} {P : Nat} (ha : dig S a = 0) (hP : P.testBit a = true) : S < S ||| P := by
  rcases Nat.lt_or_ge S (S ||| P) with h | h
  · exact h
  · have e : S ||| P = S := Nat.le_antisymm h Nat.left_le_or
    have h1 : S.testBit a = false := tb0 ha
    have := congrArg (fun x => x.testBit a) e
    simp [Nat.testBit_or, hP, h1] at this
theorem stepJ_same {xss : List (List Int)} {cl : Nat → Bool} {S i : Nat} (h : dig S ((xss.getD i []).getD 0 0).toNat = dig S ((xss.getD i []).getD 1 0).toNat) : stepJ xss cl S i = S := by
  have hl := dig_lt S ((xss.getD i []).getD 0 0).toNat
  have h01 : dig S ((xss.getD i []).getD 0 0).toNat = 0 ∨ dig S ((xss.getD i []).getD 0 0).toNat = 1 := by omega
  rcases h01 with e | e
  · exact stepJ_miss (pair_zero e (by omega))
  · unfold stepJ; split
    · exact pair_both e (by omega)
    · rfl
theorem stepJ_diff {xss : List (List Int)} {cl : Nat → Bool} {S i : Nat} (hc : cl i = true) (h : dig S ((xss.getD i []).getD 0 0).toNat ≠ dig S ((xss.getD i []).getD 1 0).toNat) : stepJ xss cl S i = S ||| pairN xss i ∧ S < stepJ xss cl S i := by
  have hl := dig_lt S ((xss.getD i []).getD 0 0).toNat
  have hl2 := dig_lt S ((xss.getD i []).getD 1 0).toNat
  have e := stepJ_hit (xss := xss) hc (pair_one (S := S) (a := ((xss.getD i []).getD 0 0).toNat) (b := ((xss.getD i []).getD 1 0).toNat) (by omega))
  refine ⟨e, ?_⟩
  rw [e]
  by_cases h0 : dig S ((xss.getD i []).getD 0 0).toNat = 0
  · exact or_gt h0 (by simp [pairN, Nat.testBit_or, pow_testBit])
  · exact or_gt (a := ((xss.getD i []).getD 1 0).toNat) (by omega) (by simp [pairN, Nat.testBit_or, pow_testBit])
theorem i64_pair {x0 x1 : Int} (h0 : 0 ≤ x0 ∧ x0 < 22) (h1 : 0 ≤ x1 ∧ x1 < 22) : bits .or .i64 (wrap64 (2 ^ x0.toNat)) (wrap64 (2 ^ x1.toNat)) = ((2 ^ x0.toNat ||| 2 ^ x1.toNat : Nat) : Int) := by
  have e0 : (2 : Nat) ^ x0.toNat < 2 ^ 22 := Nat.pow_lt_pow_right (by decide) (by omega)
  have e1 : (2 : Nat) ^ x1.toNat < 2 ^ 22 := Nat.pow_lt_pow_right (by decide) (by omega)
  rw [pow_walk _ (by omega), pow_walk _ (by omega)]
  exact i64_or _ _ (by omega) (by omega)

theorem and_small {a b : Nat} (ha : a < 4194304) (hb : b < 4194304) : bits .and .i64 (a : Int) (b : Int) = ((a &&& b : Nat) : Int) := i64_and a b (by omega) (by omega)
theorem or_small {a b : Nat} (ha : a < 4194304) (hb : b < 4194304) : bits .or .i64 (a : Int) (b : Int) = ((a ||| b : Nat) : Int) := i64_or a b (by omega) (by omega)
theorem and_yes {a b : Nat} (ha : a < 4194304) (hb : b < 4194304) (h : a &&& b ≠ 0) : (bits .and .i64 (a : Int) (b : Int) != 0) = true := by
  rw [and_small ha hb]; simp; omega
theorem and_no {a b : Nat} (ha : a < 4194304) (hb : b < 4194304) (h : a &&& b = 0) : (bits .and .i64 (a : Int) (b : Int) != 0) = false := by
  rw [and_small ha hb, h]; rfl
theorem meas_lt {S S' T : Nat} (h : S ≤ S') (h2 : S' < 4194304) (hne : S ≠ T) :
    2 * (4194304 - (intOf (.int .i64 (S' : Int))).toNat) + (if intOf (.int .i64 (S' : Int)) = intOf (.int .i64 (S : Int)) then 0 else 1) < 2 * (4194304 - (intOf (.int .i64 (S : Int))).toNat) + (if intOf (.int .i64 (S : Int)) = intOf (.int .i64 (T : Int)) then 0 else 1) := by
  have e1 : ¬ intOf (.int .i64 (S : Int)) = intOf (.int .i64 (T : Int)) := by simp only [intOf]; omega
  rw [if_neg e1]
  by_cases e2 : S' = S
  · rw [e2, if_pos rfl]; omega
  · have e3 : ¬ intOf (.int .i64 (S' : Int)) = intOf (.int .i64 (S : Int)) := by simp only [intOf]; omega
    rw [if_neg e3]
    simp only [intOf, Int.toNat_natCast]
    omega

end JW

namespace JW

def b01 (b : Bool) : Int := if b then 1 else 0
theorem wrapI (x : Int) : IntKind.i64.wrap x = wrap64 x := (IntWalk.i64_left x).symm ▸ rfl

set_option maxRecDepth 100000 in
set_option maxHeartbeats 4000000 in
theorem joinedWith_mem (a : Option Addr) (n ca : Nat) (xss : List (List Int)) (closed pt : Int) (cl : Nat → Bool) (w : World) (hnn : xss.length = n) (hn : n ≤ 60) (p0 : 0 ≤ pt) (p1 : pt < 22)
    (ha : ∀ i, i < n → ∃ b, a = some ⟨b, 0, none⟩ ∧ ∀ j, j < 4 → w.cell? ⟨b, i * 4 + j, none⟩ = some (.int .i64 ((xss.getD i []).getD j 0))) (h8 : Pts22 xss)
    (hcl : ∀ (i : Nat) (w : World), i < n → Calls Try.prog 75 #[.int .i64 closed, .int .i64 (i : Int)] w fun e w' => e = .returned (.int .i64 (b01 (cl i))) ∧ w = w') :
    Calls Try.prog 120 #[.slice a n ca, .int .i64 closed, .int .i64 pt] w fun e w' => e = .returned (.int .i64 ((joinS xss cl pt.toNat : Nat) : Int)) ∧ Below w.heap.size w w' := by
  have Ha := Lib.hid ha
  have H8 : Hid (∀ i, i < n → (0 ≤ (xss.getD i []).getD 0 0 ∧ (xss.getD i []).getD 0 0 < 22) ∧ (0 ≤ (xss.getD i []).getD 1 0 ∧ (xss.getD i []).getD 1 0 < 22)) := fun i hi => h8 i (by omega)
  have HP8 := Lib.hid h8
  have HN := Lib.hid hnn
  have HC := Lib.hid hcl
  have hs : wrap64 (2 ^ pt.toNat) = ((2 ^ pt.toNat : Nat) : Int) := pow_walk _ (by omega)
  have HW : Hid (OnWay xss cl pt.toNat (2 ^ pt.toNat)) := OnWay.start (by omega)
  obtain ⟨s0, hs0⟩ : ∃ s0, (2 ^ pt.toNat : Nat) = s0 := ⟨_, rfl⟩
  rw [hs0] at hs HW
  have HS0 := Lib.hid hs
  clear ha h8 hnn hcl hs0 hs
  go_enter Try.func120, Try.ntmps120
  go_wp2_with fail
  go_loopw [7, 8] (fun s t wr => ∃ S T : Nat, s = .int .i64 (S : Int) ∧ t = .int .i64 (T : Int) ∧ S < 4194304 ∧ Hid (OnWay xss cl pt.toNat S) ∧ Hid (T = 0 ∨ passJ xss cl T n = S) ∧ Below w.heap.size w wr) (fun s t _ => 2 * (4194304 - (intOf s).toNat) + (if intOf s = intOf t then 0 else 1))
  case atStart => exact ⟨s0, 0, by rw [HS0.out], rfl, HW.out.2.1, HW, .inl rfl, Below.refl _ _⟩
  case round =>
    obtain ⟨S, T, rfl, rfl, hS, HO, HT, hL⟩ := hrel
    by_cases hST : S = T
    · have hd : ((S : Int) != (T : Int)) = false := by simp [hST]
      have HR : Hid (joinS xss cl pt.toNat = S) := by
        refine HO.out.done ?_
        rcases HT.out with h | h
        · have := HO.out.1; omega
        · rw [HN.out]; rw [← hST] at h; exact h
      clear hST
      go_wp2_with fail
      go_ret
      exact ⟨by rw [HR.out]; rfl, hL⟩
    · have hd : ((S : Int) != (T : Int)) = true := by simp; omega
      have HD : Hid (S ≠ T) := hST
      clear hST
      go_wp2_with fail
      obtain ⟨wo, hwo⟩ : ∃ wo : World, wo = wr := ⟨_, rfl⟩
      have HL : Hid (Below w.heap.size w wo) := by rw [hwo]; exact hL
      subst hwo
      clear hL
      go_loopw [7, 20] (fun s c wr => ∃ k : Nat, k ≤ n ∧ c = .int .i64 (k : Int) ∧ s = .int .i64 ((passJ xss cl S k : Nat) : Int) ∧ Below w.heap.size w wr) (fun _ c _ => n - (intOf c).toNat)
      case atStart => exact ⟨0, Nat.zero_le _, rfl, rfl, HL.out⟩
      case round =>
        obtain ⟨k, hk, rfl, rfl, hL⟩ := hrel
        by_cases hlt : k < n
        · obtain ⟨b, rfl, hcs⟩ := Ha.out k hlt
          have c0 := cell_later hL (hcs 0 (by omega))
          have c1 := cell_later hL (hcs 1 (by omega))
          have c2 := cell_later hL (hcs 2 (by omega))
          have c3 := cell_later hL (hcs 3 (by omega))
          clear hcs
          simp only [Nat.add_zero] at c0
          obtain ⟨q0, q1⟩ := H8.out k hlt
          have hi1 : (k : Int) < (n : Int) := by omega
          have hi0 : (0 : Int) ≤ (k : Int) := by omega
          have hz := hL.size
          have hPk : passJ xss cl S k < 4194304 := passJ_lt HP8.out cl hS (by rw [HN.out]; exact hk)
          have hPr : pairN xss k < 4194304 := pairN_lt HP8.out (by rw [HN.out]; exact hlt)
          have hp : bits .or .i64 (wrap64 (2 ^ ((xss.getD k []).getD 0 0).toNat)) (wrap64 (2 ^ ((xss.getD k []).getD 1 0).toNat)) = ((pairN xss k : Nat) : Int) := i64_pair q0 q1
          have HSt : Hid (passJ xss cl S (k + 1) = stepJ xss cl (passJ xss cl S k) k) := rfl
          cases hck : cl k
          · have HE : Hid (passJ xss cl S (k + 1) = passJ xss cl S k) := by unfold Hid; rw [HSt.out, stepJ_out hck]
            have HCk : Hid (∀ w : World, Calls Try.prog 75 #[.int .i64 closed, .int .i64 (k : Int)] w fun e w' => e = .returned (.int .i64 0) ∧ w = w') := fun w => by have := HC.out k w hlt; rw [hck] at this; exact this
            clear hck HSt
            generalize (xss.getD k []).getD 0 0 = x0 at *
            generalize (xss.getD k []).getD 1 0 = x1 at *
            generalize (xss.getD k []).getD 2 0 = x2 at *
            generalize (xss.getD k []).getD 3 0 = x3 at *
            have hm0 : min x0.toNat 64 = x0.toNat := by omega
            have hm1 : min x1.toNat 64 = x1.toNat := by omega
            have hw0 := wrapI (2 ^ x0.toNat)
            have hw1 := wrapI (2 ^ x1.toNat)
            have q00 := q0.1
            have q10 := q1.1
            generalize passJ xss cl S k = Q at *
            generalize pairN xss k = P at *
            clear q0 q1
            go_wp2_with fail
            go_quiet (fail)
            clear hw0 hw1 hm0 hm1
            go_wp2_with (go_at_call 75; (with_reducible refine (HCk.out _).mono ?_); rintro e w' ⟨rfl, rfl⟩)
            go_roundw
            case rel => exact ⟨k + 1, by omega, by go_num, by rw [HE.out], Bdrew (hL.alloc hz _) _⟩
            case measure => simp [intOf]; omega
          · have HCk : Hid (∀ w : World, Calls Try.prog 75 #[.int .i64 closed, .int .i64 (k : Int)] w fun e w' => e = .returned (.int .i64 1) ∧ w = w') := fun w => by have := HC.out k w hlt; rw [hck] at this; exact this
            by_cases hz0 : passJ xss cl S k &&& pairN xss k = 0
            · have HE : Hid (passJ xss cl S (k + 1) = passJ xss cl S k) := by unfold Hid; rw [HSt.out, stepJ_miss hz0]
              clear hck HSt
              generalize (xss.getD k []).getD 0 0 = x0 at *
              generalize (xss.getD k []).getD 1 0 = x1 at *
              generalize (xss.getD k []).getD 2 0 = x2 at *
              generalize (xss.getD k []).getD 3 0 = x3 at *
              have hm0 : min x0.toNat 64 = x0.toNat := by omega
              have hm1 : min x1.toNat 64 = x1.toNat := by omega
              have hw0 := wrapI (2 ^ x0.toNat)
              have hw1 := wrapI (2 ^ x1.toNat)
              have q00 := q0.1
              have q10 := q1.1
              generalize passJ xss cl S k = Q at *
              generalize pairN xss k = P at *
              have hd2 := and_no hPk hPr hz0
              clear q0 q1 hz0
              go_wp2_with fail
              go_quiet (fail)
              clear hw0 hw1 hm0 hm1
              go_wp2_with (go_at_call 75; (with_reducible refine (HCk.out _).mono ?_); rintro e w' ⟨rfl, rfl⟩)
              go_roundw
              case rel => exact ⟨k + 1, by omega, by go_num, by rw [HE.out], Bdrew (hL.alloc hz _) _⟩
              case measure => simp [intOf]; omega
            · have HE : Hid (passJ xss cl S (k + 1) = passJ xss cl S k ||| pairN xss k) := by unfold Hid; rw [HSt.out, stepJ_hit hck hz0]
              clear hck HSt
              generalize (xss.getD k []).getD 0 0 = x0 at *
              generalize (xss.getD k []).getD 1 0 = x1 at *
              generalize (xss.getD k []).getD 2 0 = x2 at *
              generalize (xss.getD k []).getD 3 0 = x3 at *
              have hm0 : min x0.toNat 64 = x0.toNat := by omega
              have hm1 : min x1.toNat 64 = x1.toNat := by omega
              have hw0 := wrapI (2 ^ x0.toNat)
              have hw1 := wrapI (2 ^ x1.toNat)
              have q00 := q0.1
              have q10 := q1.1
              generalize passJ xss cl S k = Q at *
              generalize pairN xss k = P at *
              have hd2 := and_yes hPk hPr hz0
              have HOR := Lib.hid (or_small hPk hPr)
              clear q0 q1 hz0
              go_wp2_with fail
              go_quiet (fail)
              clear hw0 hw1 hm0 hm1
              go_wp2_with (go_at_call 75; (with_reducible refine (HCk.out _).mono ?_); rintro e w' ⟨rfl, rfl⟩)
              go_roundw
              case rel => exact ⟨k + 1, by omega, by go_num, by rw [HE.out, ← HOR.out], Bdrew (hL.alloc hz _) _⟩
              case measure => simp [intOf]; omega
        · have e : k = n := by omega
          subst e
          have HN2 := HO.out.next HP8.out
          rw [HN.out] at HN2
          have HON := Lib.hid HN2
          have hge : S ≤ passJ xss cl S k := passJ_ge _ _ _ _
          have h4194304 := HN2.2.1
          have HME := Lib.hid (meas_lt hge h4194304 HD.out)
          clear HN2
          have HTT : Hid (S = 0 ∨ passJ xss cl S k = passJ xss cl S k) := .inr rfl
          go_wp2_with fail
          go_roundw
          case rel => exact ⟨_, S, rfl, rfl, h4194304, HON, HTT, hL⟩
          case measure => exact HME.out

theorem joinedWith_any (v : Value) (xss : List (List Int)) (closed pt : Int) (cl : Nat → Bool) (w : World) (ha : ReadsC w v xss) (hn : xss.length ≤ 60) (p0 : 0 ≤ pt) (p1 : pt < 22) (h8 : Pts22 xss)
    (hcl : ∀ (i : Nat) (w : World), i < xss.length → Calls Try.prog 75 #[.int .i64 closed, .int .i64 (i : Int)] w fun e w' => e = .returned (.int .i64 (b01 (cl i))) ∧ w = w') :
    Calls Try.prog 120 #[v, .int .i64 closed, .int .i64 pt] w fun e w' => e = .returned (.int .i64 ((joinS xss cl pt.toNat : Nat) : Int)) ∧ Below w.heap.size w w' := by
  obtain ⟨a, ca, rfl, _, ha⟩ := ha
  refine joinedWith_mem a xss.length ca xss closed pt cl w rfl hn p0 p1 (fun i hi => ?_) h8 hcl
  rcases ha with rfl | ⟨b, rfl, ha⟩
  · simp at hi
  · exact ⟨b, rfl, ha i hi⟩
/-- the contacts of a set, by bits -/
def inB (set : Int) (i : Nat) : Bool := decide (dig set.toNat i = 1)
theorem digitAt_inB {n : Nat} (hn : n ≤ 60) {set : Int} (h0 : 0 ≤ set) (h1 : set < 9223372036854775808) (i : Nat) (w : World) (hi : i < n) :
    Calls Try.prog 75 #[.int .i64 set, .int .i64 (i : Int)] w fun e w' => e = .returned (.int .i64 (b01 (inB set i))) ∧ w = w' := by
  have h := digitAt_any set (i : Int) w h0 h1 (by omega) (by omega)
  have e : digZ set (i : Int) = b01 (inB set i) := by
    unfold digZ inB b01
    have hl := dig_lt set.toNat i
    simp only [Int.toNat_natCast]
    by_cases hd : dig set.toNat i = 1
    · simp [hd]
    · have e : dig set.toNat i = 0 := by omega
      simp [e]
  rwa [e] at h

end JW

/-- t lies in each set that has s and is closed under E -/
def Live (E : Nat → Nat → Prop) (s t : Nat) : Prop := ∀ C : Nat → Prop, C s → (∀ a b, E a b → (C a ↔ C b)) → C t
theorem Live.self (E : Nat → Nat → Prop) (s : Nat) : Live E s s := fun _ h _ => h
theorem Live.step {E : Nat → Nat → Prop} {s a b : Nat} (h : E a b) : Live E s a ↔ Live E s b :=
  ⟨fun ha C h1 h2 => (h2 a b h).1 (ha C h1 h2), fun hb C h1 h2 => (h2 a b h).2 (hb C h1 h2)⟩
theorem Live.congr {E E' : Nat → Nat → Prop} (h : ∀ a b, E a b ↔ E' a b) (s t : Nat) : Live E s t ↔ Live E' s t :=
  ⟨fun ha C h1 h2 => ha C h1 fun a b hab => h2 a b ((h a b).1 hab), fun ha C h1 h2 => ha C h1 fun a b hab => h2 a b ((h a b).2 hab)⟩
/-- the live ones below 22, by bits -/
noncomputable def liveN (E : Nat → Nat → Prop) (s : Nat) : Nat := setOf (fun t => bP (Live E s t)) 22
theorem liveN_lt (E : Nat → Nat → Prop) (s : Nat) : liveN E s < 4194304 := setOf_lt _ 22
theorem liveN_dig (E : Nat → Nat → Prop) (s : Nat) {t : Nat} (h : t < 22) : dig (liveN E s) t = 1 ↔ Live E s t := by
  unfold liveN
  rw [setOf_dig _ h]
  cases e : bP (Live E s t)
  · exact ⟨fun h => by simp at h, fun h => absurd (bP_iff.2 h) (by rw [e]; simp)⟩
  · exact ⟨fun _ => bP_iff.1 e, fun _ => rfl⟩
theorem liveN_congr {E E' : Nat → Nat → Prop} (h : ∀ a b, E a b ↔ E' a b) (s : Nat) : liveN E s = liveN E' s := by
  unfold liveN
  congr 1
  funext t
  have := Live.congr h s t
  unfold bP
  congr 1
  exact propext this
theorem liveN_eq {E : Nat → Nat → Prop} {s S : Nat} (hS : S < 4194304) (h : ∀ t, t < 22 → (dig S t = 1 ↔ Live E s t)) : liveN E s = S := by
  refine dig_ext (k := 22) (liveN_lt E s) hS fun t ht => ?_
  have h1 := h t ht
  have h2 := liveN_dig E s ht
  have l1 := dig_lt S t
  have l2 := dig_lt (liveN E s) t
  by_cases e : Live E s t
  · have := h1.2 e; have := h2.2 e; omega
  · have n1 : ¬ dig S t = 1 := fun x => e (h1.1 x)
    have n2 : ¬ dig (liveN E s) t = 1 := fun x => e (h2.1 x)
    omega

/-! ### the iteration's set -/
/-- what contacts that are closed join -/
def conE (L : List (List Int)) (cl : Nat → Bool) (a b : Nat) : Prop := ∃ i, i < L.length ∧ cl i = true ∧ ((L.getD i []).getD 0 0).toNat = a ∧ ((L.getD i []).getD 1 0).toNat = b

theorem pass_sub {L : List (List Int)} {cl : Nat → Bool} {C : Nat → Prop} (hC : ∀ a b, conE L cl a b → (C a ↔ C b)) {S : Nat} (hS : ∀ t, S.testBit t = true → C t) {k : Nat} (hk : k ≤ L.length) :
    ∀ t, (JW.passJ L cl S k).testBit t = true → C t := by
  induction k with
  | zero => exact hS
  | succ k ih =>
    intro t ht
    have ih := ih (by omega)
    change (JW.stepJ L cl (JW.passJ L cl S k) k).testBit t = true at ht
    generalize JW.passJ L cl S k = Q at *
    unfold JW.stepJ at ht
    split at ht
    · rename_i h
      obtain ⟨hc, hne⟩ := h
      have hE : conE L cl ((L.getD k []).getD 0 0).toNat ((L.getD k []).getD 1 0).toNat := ⟨k, by omega, hc, rfl, rfl⟩
      have hboth : C ((L.getD k []).getD 0 0).toNat ∧ C ((L.getD k []).getD 1 0).toNat := by
        by_cases ha : Q.testBit ((L.getD k []).getD 0 0).toNat = true
        · exact ⟨ih _ ha, (hC _ _ hE).1 (ih _ ha)⟩
        · by_cases hb : Q.testBit ((L.getD k []).getD 1 0).toNat = true
          · exact ⟨(hC _ _ hE).2 (ih _ hb), ih _ hb⟩
          · refine absurd ?_ hne
            unfold JW.pairN
            generalize ((L.getD k []).getD 0 0).toNat = x at *
            generalize ((L.getD k []).getD 1 0).toNat = y at *
            exact JW.pair_zero (by rw [dig_testBit]; simp only [Bool.not_eq_true] at ha; rw [ha]; rfl) (by rw [dig_testBit]; simp only [Bool.not_eq_true] at hb; rw [hb]; rfl)
      rw [Nat.testBit_or, Bool.or_eq_true] at ht
      rcases ht with ht | ht
      · exact ih t ht
      · unfold JW.pairN at ht
        rw [Nat.testBit_or, Bool.or_eq_true, JW.pow_testBit, JW.pow_testBit, decide_eq_true_iff, decide_eq_true_iff] at ht
        rcases ht with rfl | rfl
        · exact hboth.1
        · exact hboth.2
    · exact ih t ht
theorem step_bits (L : List (List Int)) (cl : Nat → Bool) (S i : Nat) {t : Nat} (h : S.testBit t = true) : (JW.stepJ L cl S i).testBit t = true := by
  unfold JW.stepJ; split
  · rw [Nat.testBit_or, h]; rfl
  · exact h
theorem pass_bits (L : List (List Int)) (cl : Nat → Bool) (S k : Nat) {t : Nat} (h : S.testBit t = true) : (JW.passJ L cl S k).testBit t = true := by
  induction k with
  | zero => exact h
  | succ k ih => exact step_bits _ _ _ _ ih
theorem iter_sub {L : List (List Int)} {cl : Nat → Bool} {C : Nat → Prop} (hC : ∀ a b, conE L cl a b → (C a ↔ C b)) {s : Nat} (hs : ∀ t, s.testBit t = true → C t) (m : Nat) :
    ∀ t, (JW.iter (fun S => JW.passJ L cl S L.length) s m).testBit t = true → C t := by
  induction m with
  | zero => exact hs
  | succ m ih => exact pass_sub hC ih (Nat.le_refl _)
theorem iter_bits (L : List (List Int)) (cl : Nat → Bool) (s m : Nat) {t : Nat} (h : s.testBit t = true) : (JW.iter (fun S => JW.passJ L cl S L.length) s m).testBit t = true := by
  induction m with
  | zero => exact h
  | succ m ih => exact pass_bits _ _ _ _ ih
/-- a set that a whole pass leaves is closed -/
theorem pass_fix {L : List (List Int)} {cl : Nat → Bool} {S : Nat} (h : JW.passJ L cl S L.length = S) {k : Nat} (hk : k ≤ L.length) : JW.passJ L cl S k = S := by
  have up : ∀ m k, JW.passJ L cl S k ≤ JW.passJ L cl S (k + m) := by
    intro m
    induction m with
    | zero => intro k; exact Nat.le_refl _
    | succ m ih => intro k; exact Nat.le_trans (ih k) (JW.stepJ_ge _ _ _ _)
  have h1 := JW.passJ_ge L cl S k
  have h2 := up (L.length - k) k
  rw [show k + (L.length - k) = L.length by omega, h] at h2
  omega
theorem fix_closed {L : List (List Int)} {cl : Nat → Bool} {S : Nat} (h : JW.passJ L cl S L.length = S) : ∀ a b, conE L cl a b → (S.testBit a = true ↔ S.testBit b = true) := by
  rintro a b ⟨i, hi, hc, rfl, rfl⟩
  have h1 := pass_fix h (k := i) (by omega)
  have h2 := pass_fix h (k := i + 1) (by omega)
  change JW.stepJ L cl (JW.passJ L cl S i) i = S at h2
  rw [h1] at h2
  have key : S &&& JW.pairN L i ≠ 0 → S.testBit ((L.getD i []).getD 0 0).toNat = true ∧ S.testBit ((L.getD i []).getD 1 0).toNat = true := by
    intro hne
    rw [JW.stepJ_hit hc hne] at h2
    rw [← h2]
    unfold JW.pairN
    simp [Nat.testBit_or, JW.pow_testBit]
  have ne : ∀ t, S.testBit t = true → (JW.pairN L i).testBit t = true → S &&& JW.pairN L i ≠ 0 := by
    intro t h3 h4 e
    have := congrArg (fun x => x.testBit t) e
    simp [Nat.testBit_and, h3, h4] at this
  constructor
  · intro ha
    exact (key (ne _ ha (by unfold JW.pairN; simp [Nat.testBit_or, JW.pow_testBit]))).2
  · intro hb
    exact (key (ne _ hb (by unfold JW.pairN; simp [Nat.testBit_or, JW.pow_testBit]))).1
theorem iter_grow {F : Nat → Nat} (hF : ∀ S, S ≤ F S) (s m : Nat) : m ≤ JW.iter F s m ∨ F (JW.iter F s m) = JW.iter F s m := by
  induction m with
  | zero => exact .inl (Nat.zero_le _)
  | succ m ih =>
    rcases ih with h | h
    · by_cases e : F (JW.iter F s m) = JW.iter F s m
      · right
        show F (F (JW.iter F s m)) = F (JW.iter F s m)
        rw [e, e]
      · left
        show m + 1 ≤ F (JW.iter F s m)
        have := hF (JW.iter F s m)
        omega
    · right
      show F (F (JW.iter F s m)) = F (JW.iter F s m)
      rw [h, h]
theorem joinS_fix {L : List (List Int)} (h : JW.Pts22 L) (cl : Nat → Bool) {p : Nat} (hp : p < 22) : JW.passJ L cl (JW.joinS L cl p) L.length = JW.joinS L cl p := by
  have hlt := JW.joinS_lt h cl hp
  unfold JW.joinS at *
  rcases iter_grow (F := fun S => JW.passJ L cl S L.length) (fun S => JW.passJ_ge _ _ _ _) (2 ^ p) 4194304 with h1 | h1
  · omega
  · exact h1
theorem joinS_live {L : List (List Int)} (h : JW.Pts22 L) (cl : Nat → Bool) {p : Nat} (hp : p < 22) (t : Nat) : (JW.joinS L cl p).testBit t = true ↔ Live (conE L cl) p t := by
  constructor
  · intro ht C h1 h2
    unfold JW.joinS at ht
    refine iter_sub h2 (s := 2 ^ p) (fun t ht => ?_) _ t ht
    rw [JW.pow_testBit, decide_eq_true_iff] at ht
    rw [← ht]; exact h1
  · intro hl
    refine hl (fun t => (JW.joinS L cl p).testBit t = true) ?_ (fix_closed (joinS_fix h cl hp))
    unfold JW.joinS
    exact iter_bits _ _ _ _ (by rw [JW.pow_testBit]; simp)
theorem joinS_eq {L : List (List Int)} (h : JW.Pts22 L) (cl : Nat → Bool) {p : Nat} (hp : p < 22) : JW.joinS L cl p = liveN (conE L cl) p := by
  refine (liveN_eq (JW.joinS_lt h cl hp) fun t ht => ?_).symm
  rw [← joinS_live h cl hp t, dig_testBit]
  cases (JW.joinS L cl p).testBit t <;> simp

set_option maxRecDepth 100000 in
set_option maxHeartbeats 2000000 in
theorem closedInRow_w (v : Value) (xss : List (List Int)) (row : Int) (w : World) (ha : ReadsC w v xss) (hn : xss.length ≤ 60) (hk2 : ∀ i, i < xss.length → 0 ≤ (xss.getD i []).getD 2 0 ∧ (xss.getD i []).getD 2 0 < 60) (r0 : 0 ≤ row) (r1 : row < 9223372036854775808) :
    Calls Try.prog 121 #[v, .int .i64 row] w fun e w' => e = .returned (.int .i64 (closedS xss row)) ∧ Below w.heap.size w w' := by
  obtain ⟨a, ca, rfl, hm, ha⟩ := ha
  unfold maxLen at hm
  rcases ha with rfl | ⟨b, rfl, ha⟩
  · go_enter Try.func121, Try.ntmps121
    go_wp2
    refine wp_loop_rounds 1 ?_
    rw [rounds_succ]
    go_wp2
    go_ret
    exact ⟨rfl, Below.refl _ _⟩
  · have Ha := Lib.hid ha
    have Hk := Lib.hid hk2
    have HE : Hid (closedS xss row = ((setOf (clB xss row) xss.length : Nat) : Int)) := rfl
    clear ha hk2
    generalize hnn : xss.length = n at *
    clear hnn
    go_enter Try.func121, Try.ntmps121
    go_wp2_with fail
    go_loopw [5, 10] (fun s c wr => ∃ k : Nat, k ≤ n ∧ c = .int .i64 (k : Int) ∧ s = .int .i64 ((setOf (clB xss row) k : Nat) : Int) ∧ Below w.heap.size w wr) (fun _ c _ => n - (intOf c).toNat)
    case atStart => exact ⟨0, Nat.zero_le _, rfl, rfl, Below.refl _ _⟩
    case round =>
      obtain ⟨k, hk, rfl, rfl, hL⟩ := hrel
      by_cases hlt : k < n
      · have c0 := cell_later hL (Ha.out k hlt 0 (by omega))
        have c1 := cell_later hL (Ha.out k hlt 1 (by omega))
        have c2 := cell_later hL (Ha.out k hlt 2 (by omega))
        have c3 := cell_later hL (Ha.out k hlt 3 (by omega))
        simp only [Nat.add_zero] at c0
        obtain ⟨q0, q1⟩ := Hk.out k hlt
        have hi1 : (k : Int) < (n : Int) := by omega
        have hi0 : (0 : Int) ≤ (k : Int) := by omega
        have hz := hL.size
        have hlt63 := Nat.lt_of_lt_of_le (setOf_lt (clB xss row) k) (Nat.pow_le_pow_right (by decide) (show k ≤ 62 by omega))
        cases hcl : clB xss row k
        · have Hn := Lib.hid (setOf_miss _ _ hcl)
          have hd : (digZ row ((xss.getD k []).getD 2 0) != (xss.getD k []).getD 3 0) = false := hcl
          have hd2 : (digZ row ((xss.getD k []).getD 2 0) == (xss.getD k []).getD 3 0) = true := by simpa using hd
          clear hcl
          generalize (xss.getD k []).getD 0 0 = x0 at *
          generalize (xss.getD k []).getD 1 0 = x1 at *
          generalize (xss.getD k []).getD 2 0 = x2 at *
          generalize (xss.getD k []).getD 3 0 = x3 at *
          generalize setOf (clB xss row) k = sk at *
          go_wp2_with fail
          go_quiet ((go_at_call 75; exact quiet1 (digitAt_any _ _ _ r0 r1 (by omega) (by omega))))
          go_wp2_with fail
          go_roundw
          case rel => exact ⟨k + 1, by omega, by go_num, by rw [Hn.out], Bdrew (hL.alloc hz _) _⟩
          case measure => simp [intOf]; omega
        · have Hn := Lib.hid (or_walk _ k hlt63 (by omega))
          rw [setOf_hit _ _ hcl] at Hn
          have hd : (digZ row ((xss.getD k []).getD 2 0) != (xss.getD k []).getD 3 0) = true := hcl
          have hd2 : (digZ row ((xss.getD k []).getD 2 0) == (xss.getD k []).getD 3 0) = false := by simpa using hd
          clear hcl
          generalize (xss.getD k []).getD 0 0 = x0 at *
          generalize (xss.getD k []).getD 1 0 = x1 at *
          generalize (xss.getD k []).getD 2 0 = x2 at *
          generalize (xss.getD k []).getD 3 0 = x3 at *
          generalize setOf (clB xss row) k = sk at *
          go_wp2_with fail
          go_quiet ((go_at_call 75; exact quiet1 (digitAt_any _ _ _ r0 r1 (by omega) (by omega))))
          go_wp2_with fail
          go_roundw
          case rel => exact ⟨k + 1, by omega, by go_num, by rw [← Hn.out], Bdrew (hL.alloc hz _) _⟩
          case measure => simp [intOf]; omega
      · have e : k = n := by omega
        subst e
        go_wp2_with fail
        go_ret
        exact ⟨by rw [HE.out]; rfl, hL⟩

/-- what wires that are not broken, and switches in their positions, join -/
def wirE (xs : List Int) (yss : List (List Int)) (brk : Nat → Bool) (pos : Int) (a b : Nat) : Prop :=
  (∃ i, i < yss.length ∧ brk i = false ∧ ((yss.getD i []).getD 0 0).toNat = a ∧ ((yss.getD i []).getD 1 0).toNat = b) ∨
  (∃ i, i < xs.length ∧ ∃ r ∈ pairsL (termZ xs i) (xs.getD i 0) (dig pos.toNat i), (r.getD 0 0).toNat = a ∧ (r.getD 1 0).toNat = b)

theorem mem_swC {xs : List Int} {c : List Int} : c ∈ swC xs ↔ ∃ i, i < xs.length ∧ ∃ q, q < 2 ∧ ∃ r ∈ pairsL (termZ xs i) (xs.getD i 0) q, c = [r.getD 0 0, r.getD 1 0, (i : Int), 1 - (q : Int)] := by
  unfold swC swTo swPos swRow
  simp only [List.mem_flatMap, List.mem_range, List.mem_map]
  constructor
  · rintro ⟨i, hi, q, hq, r, hr, rfl⟩; exact ⟨i, hi, q, hq, r, hr, rfl⟩
  · rintro ⟨i, hi, q, hq, r, hr, rfl⟩; exact ⟨i, hi, q, hq, r, hr, rfl⟩
theorem leads_len (xs : List Int) (yss : List (List Int)) : (leadsL xs yss).length = yss.length + (swC xs).length := by unfold leadsL; rw [List.length_append, List.length_map]
theorem swC_len {xs : List Int} (h : SwOk xs) : (swC xs).length ≤ 20 := by have := swTo_len xs xs.length; have := h.1.2; unfold swC; omega
theorem leads_wire {xs : List Int} {yss : List (List Int)} {i : Nat} (h : i < yss.length) : (leadsL xs yss).getD i [] = wireC (yss.getD i []) := by
  unfold leadsL
  simp [List.getD_eq_getElem?_getD, List.getElem?_append_left, h]
theorem leads_sw {xs : List Int} {yss : List (List Int)} {i : Nat} (h : yss.length ≤ i) : (leadsL xs yss).getD i [] = (swC xs).getD (i - yss.length) [] := by
  unfold leadsL
  simp only [List.getD_eq_getElem?_getD]
  rw [List.getElem?_append_right (by simpa using h), List.length_map]
theorem getD_mem {L : List (List Int)} {i : Nat} (h : i < L.length) : L.getD i [] ∈ L := by
  simp [List.getD_eq_getElem?_getD, h]
theorem mem_getD {L : List (List Int)} {c : List Int} (h : c ∈ L) : ∃ i, i < L.length ∧ L.getD i [] = c := by
  obtain ⟨i, hi, e⟩ := List.getElem_of_mem h
  exact ⟨i, hi, by simp [List.getD_eq_getElem?_getD, hi, e]⟩
theorem pairs_bd {t size : Int} {q : Nat} (hs : size = 3 ∨ size = 4) (hq : q < 2) {r : List Int} (hr : r ∈ pairsL t size q) : t ≤ r.getD 0 0 ∧ r.getD 0 0 < t + size ∧ t ≤ r.getD 1 0 ∧ r.getD 1 0 < t + size := by
  unfold pairsL at hr
  rcases hs with rfl | rfl
  · rw [if_pos rfl] at hr
    simp only [List.mem_singleton] at hr
    subst hr
    simp; omega
  · rw [if_neg (by decide)] at hr
    simp only [List.mem_cons, List.not_mem_nil, or_false] at hr
    rcases hr with rfl | rfl <;> simp <;> omega
theorem swC_pts {xs : List Int} (h : SwOk xs) {c : List Int} (hc : c ∈ swC xs) : (0 ≤ c.getD 0 0 ∧ c.getD 0 0 < 22) ∧ (0 ≤ c.getD 1 0 ∧ c.getD 1 0 < 22) ∧ (0 ≤ c.getD 2 0 ∧ c.getD 2 0 < 60) := by
  obtain ⟨i, hi, q, hq, r, hr, rfl⟩ := mem_swC.1 hc
  have h1 := pairs_bd (h.2 i hi) hq hr
  have h2 := termZ_bd h (k := i) (by omega)
  have h3 := term_in h hi
  have h4 := termZ_bd h (Nat.le_refl _)
  have h5 := h.1.2
  simp only [List.getD_cons_zero, List.getD_cons_succ]
  omega
/-- wires that lie within 22 terminals -/
def Wires22 (yss : List (List Int)) : Prop := ∀ i, i < yss.length → (yss.getD i []).length = 2 ∧ (0 ≤ (yss.getD i []).getD 0 0 ∧ (yss.getD i []).getD 0 0 < 22) ∧ (0 ≤ (yss.getD i []).getD 1 0 ∧ (yss.getD i []).getD 1 0 < 22)
theorem leads_pts {xs : List Int} {yss : List (List Int)} (h : SwOk xs) (hy : Wires22 yss) : JW.Pts22 (leadsL xs yss) ∧ ∀ i, i < (leadsL xs yss).length → 0 ≤ ((leadsL xs yss).getD i []).getD 2 0 ∧ ((leadsL xs yss).getD i []).getD 2 0 < 60 := by
  have key : ∀ i, i < (leadsL xs yss).length → (0 ≤ ((leadsL xs yss).getD i []).getD 0 0 ∧ ((leadsL xs yss).getD i []).getD 0 0 < 22) ∧ (0 ≤ ((leadsL xs yss).getD i []).getD 1 0 ∧ ((leadsL xs yss).getD i []).getD 1 0 < 22) ∧ (0 ≤ ((leadsL xs yss).getD i []).getD 2 0 ∧ ((leadsL xs yss).getD i []).getD 2 0 < 60) := by
    intro i hi
    rw [leads_len] at hi
    by_cases hw : i < yss.length
    · rw [leads_wire hw]
      have := hy i hw
      unfold wireC
      simp only [List.getD_cons_zero, List.getD_cons_succ]
      omega
    · rw [leads_sw (by omega)]
      exact swC_pts h (getD_mem (by omega))
  exact ⟨fun i hi => ⟨(key i hi).1, (key i hi).2.1⟩, fun i hi => (key i hi).2.2⟩

theorem dig5 {pos : Int} (h0 : 0 ≤ pos) (h1 : pos < 32) : digZ pos 5 = 0 := by
  unfold digZ
  have : dig pos.toNat 5 = 0 := by
    unfold dig
    rw [show pos.toNat / 2 ^ 5 = 0 from Nat.div_eq_of_lt (by omega)]
  rw [show (5 : Int).toNat = 5 from rfl, this]; rfl
theorem leads_E {xs : List Int} {yss : List (List Int)} (brk : Nat → Bool) {pos : Int} (h : SwOk xs) (h0 : 0 ≤ pos) (h1 : pos < 32) (cl : Nat → Bool)
    (hcl : ∀ i, i < (leadsL xs yss).length → (cl i = true ↔ clB (leadsL xs yss) pos i = true ∧ (i < yss.length → brk i = false))) (a b : Nat) : conE (leadsL xs yss) cl a b ↔ wirE xs yss brk pos a b := by
  unfold conE wirE
  constructor
  · rintro ⟨i, hi, hc, ha, hb⟩
    obtain ⟨h2, h3⟩ := (hcl i hi).1 hc
    by_cases hw : i < yss.length
    · left
      rw [leads_wire hw] at ha hb
      exact ⟨i, hw, h3 hw, by simpa [wireC] using ha, by simpa [wireC] using hb⟩
    · right
      rw [leads_len] at hi
      unfold clB at h2
      rw [leads_sw (by omega)] at ha hb h2
      obtain ⟨j, hj, q, hq, r, hr, e⟩ := mem_swC.1 (getD_mem (L := swC xs) (i := i - yss.length) (by omega))
      rw [e] at ha hb h2
      simp only [List.getD_cons_zero, List.getD_cons_succ, bne_iff_ne] at ha hb h2
      have hd : dig pos.toNat j = q := by
        have hl := dig_lt pos.toNat j
        unfold digZ at h2
        rw [Int.toNat_natCast] at h2
        omega
      exact ⟨j, hj, r, by rw [hd]; exact hr, ha, hb⟩
  · rintro (⟨i, hi, hbr, ha, hb⟩ | ⟨j, hj, r, hr, ha, hb⟩)
    · refine ⟨i, by rw [leads_len]; omega, (hcl i (by rw [leads_len]; omega)).2 ⟨?_, fun _ => hbr⟩, ?_, ?_⟩
      · unfold clB
        rw [leads_wire hi]
        unfold wireC
        simp only [List.getD_cons_zero, List.getD_cons_succ, dig5 h0 h1]
        decide
      · rw [leads_wire hi]; simpa [wireC] using ha
      · rw [leads_wire hi]; simpa [wireC] using hb
    · have hl := dig_lt pos.toNat j
      obtain ⟨i, hi, e⟩ := mem_getD (mem_swC.2 ⟨j, hj, dig pos.toNat j, by omega, r, hr, rfl⟩)
      have e2 : (leadsL xs yss).getD (yss.length + i) [] = [r.getD 0 0, r.getD 1 0, (j : Int), 1 - ((dig pos.toNat j : Nat) : Int)] := by
        rw [leads_sw (by omega), show yss.length + i - yss.length = i by omega]; exact e
      refine ⟨yss.length + i, by rw [leads_len]; omega, (hcl _ (by rw [leads_len]; omega)).2 ⟨?_, fun hh => absurd hh (by omega)⟩, ?_, ?_⟩
      · unfold clB
        rw [e2]
        simp only [List.getD_cons_zero, List.getD_cons_succ, bne_iff_ne]
        unfold digZ
        rw [Int.toNat_natCast]
        omega
      · rw [e2]; simpa using ha
      · rw [e2]; simpa using hb

/-- the closed ones but those of a set -/
theorem andNot_w {a B : Nat} (ha : a < 1152921504606846976) (hB : B < 65536) : bits .andNot .i64 (a : Int) (B : Int) = ((a &&& (2 ^ 63 - 1 - B) : Nat) : Int) := i64_andNot a B (by omega) (by omega)
theorem andNot_bit {a B i : Nat} (hB : B < 65536) (hi : i < 63) : (a &&& (2 ^ 63 - 1 - B)).testBit i = (a.testBit i && !(B.testBit i)) := by
  rw [Nat.testBit_and]
  congr 1
  have e : 2 ^ 63 - 1 - B = B ^^^ (2 ^ 63 - 1) := (xor_full (n := 63) (by omega)).symm
  rw [e, Nat.testBit_xor, Nat.testBit_two_pow_sub_one]
  simp [hi]

theorem broken_cl {L : List (List Int)} {m : Nat} {pos : Int} {B : Nat} (hL : L.length ≤ 60) (hm : m ≤ 16) (hB : B < 2 ^ m) (i : Nat) (hi : i < L.length) :
    JW.inB (((setOf (clB L pos) L.length &&& (2 ^ 63 - 1 - B) : Nat) : Int)) i = true ↔ clB L pos i = true ∧ (i < m → B.testBit i = false) := by
  have hB2 : B < 65536 := Nat.lt_of_lt_of_le hB (Nat.pow_le_pow_right (n := 2) (by decide) hm)
  unfold JW.inB
  rw [decide_eq_true_iff, Int.toNat_natCast, dig_testBit, andNot_bit hB2 (by omega)]
  have e : (setOf (clB L pos) L.length).testBit i = clB L pos i := by
    have h1 := setOf_dig (clB L pos) hi
    rw [dig_testBit] at h1
    cases h2 : (setOf (clB L pos) L.length).testBit i <;> cases h3 : clB L pos i <;> rw [h2, h3] at h1 <;> first | rfl | cases h1
  rw [e]
  have hz : m ≤ i → B.testBit i = false := fun h => Nat.testBit_lt_two_pow (Nat.lt_of_lt_of_le hB (Nat.pow_le_pow_right (by decide) h))
  by_cases hmi : i < m
  · cases clB L pos i <;> cases B.testBit i <;> simp [hmi]
  · rw [hz (by omega)]
    cases clB L pos i <;> simp [hmi]

set_option maxHeartbeats 1000000 in
theorem liveTerminals_any (v : Value) (xs : List Int) (yss : List (List Int)) (pos : Int) (B : Nat) (w : World) (ha : ReadsC w v (leadsL xs yss)) (hs : SwOk xs) (hy : Wires22 yss) (h16 : yss.length ≤ 16) (p0 : 0 ≤ pos) (p1 : pos < 32) (hB : B < 2 ^ yss.length) {z : Nat} (hz : liveN (wirE xs yss B.testBit pos) 0 = z) :
    Calls Try.prog 76 #[v, .int .i64 pos, .int .i64 (B : Int)] w fun e w' => e = .returned (.int .i64 (z : Int)) ∧ Below w.heap.size w w' := by
  obtain ⟨hp, h2⟩ := leads_pts hs hy
  have hn : (leadsL xs yss).length ≤ 60 := by rw [leads_len]; have := swC_len hs; omega
  have HCL := Lib.hid (closedInRow_w v (leadsL xs yss) pos w ha hn h2 p0 (by omega))
  have hB2 : B < 65536 := Nat.lt_of_lt_of_le hB (Nat.pow_le_pow_right (n := 2) (by decide) h16)
  have hset : setOf (clB (leadsL xs yss) pos) (leadsL xs yss).length < 1152921504606846976 := Nat.lt_of_lt_of_le (setOf_lt _ _) (Nat.pow_le_pow_right (n := 2) (by decide) hn)
  obtain ⟨K, hK⟩ : ∃ K : Nat, setOf (clB (leadsL xs yss) pos) (leadsL xs yss).length &&& (2 ^ 63 - 1 - B) = K := ⟨_, rfl⟩
  have hAN := andNot_w hset hB2
  have hKlt : K < 9223372036854775808 := by rw [← hK]; exact Nat.lt_of_le_of_lt Nat.and_le_left (by omega)
  have hres : JW.joinS (leadsL xs yss) (JW.inB (K : Int)) 0 = z := by
    rw [joinS_eq hp _ (by decide), ← hz]
    refine liveN_congr (fun a b => leads_E B.testBit hs p0 p1 _ (fun i hi => ?_) a b) 0
    rw [← hK]
    exact broken_cl hn h16 hB i hi
  have HJ : Hid (∀ w', Below w.heap.size w w' → Calls Try.prog 120 #[v, .int .i64 (K : Int), .int .i64 0] w' fun e w'' => e = .returned (.int .i64 (z : Int)) ∧ Below w'.heap.size w' w'') := fun w' h => by
    have := JW.joinedWith_any v (leadsL xs yss) (K : Int) 0 (JW.inB (K : Int)) w' (ha.keep h) hn (by omega) (by omega) hp (fun i w hi => JW.digitAt_inB (n := 60) (by omega) (by omega) (by omega) i w (by omega))
    rw [show (0 : Int).toNat = 0 from rfl, hres] at this
    exact this
  unfold closedS at HCL
  rw [hK] at hAN
  clear hK hset hres hKlt hp h2 hn hz
  generalize setOf (clB (leadsL xs yss) pos) (leadsL xs yss).length = S at *
  obtain ⟨a, ca, rfl, _, _⟩ := ha
  generalize (leadsL xs yss).length = n at *
  obtain ⟨kz, hkz⟩ : ∃ kz : Int, (K : Int) = kz := ⟨_, rfl⟩
  rw [hkz] at HJ hAN
  obtain ⟨bz, hbz⟩ : ∃ bz : Int, (B : Int) = bz := ⟨_, rfl⟩
  rw [hbz] at hAN ⊢
  obtain ⟨sz, hsz⟩ : ∃ sz : Int, (S : Int) = sz := ⟨_, rfl⟩
  rw [hsz] at hAN HCL
  clear hkz hbz hsz hB hB2
  go_enter Try.func76, Try.ntmps76
  go_wp2_with fail
  refine HCL.out.mono ?_
  rintro e w1 ⟨rfl, hb⟩
  go_wp2_with fail
  refine (HJ.out _ hb).mono ?_
  rintro e w2 ⟨rfl, hb2⟩
  have hL := chain (B := w.heap.size) (a := w) hb (Nat.le_refl _) hb2
  go_wp2_with fail
  go_ret
  exact ⟨rfl, hL⟩

end Go.Proofs.Ytkdidplpnhokiaa
