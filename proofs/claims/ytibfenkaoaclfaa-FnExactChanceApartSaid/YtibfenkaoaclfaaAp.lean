/- ChanceApart: plain numbers, and small contracts. -/
import Derived.Test.YtibfenkaoaclfaaFra
import Derived.Test.YtibfenkaoaclfaaRows2
import Derived.Test.YtibfenkaoaclfaaAt
namespace Go.Proofs.Ytibfenkaoaclfaa
open Go.RowKit
set_option linter.unusedVariables false

/-- a chance as told: a / b -/
def chB (a b : Int) : Bool := decide ((1 ≤ b ∧ b ≤ 100) ∧ 0 ≤ a ∧ a ≤ b)
theorem chB_out {a b : Int} (h : chB a b = true) : 1 ≤ b ∧ b ≤ 100 ∧ 0 ≤ a ∧ a ≤ b := by
  have := of_decide_eq_true (show decide ((1 ≤ b ∧ b ≤ 100) ∧ 0 ≤ a ∧ a ≤ b) = true from h)
  omega
theorem isChance_b (x y : Int) (w : World) {b : Bool} (hb : chB x y = b) :
    Calls Try.prog 63 #[.int .i64 x, .int .i64 y] w fun e w' => e = .returned (.bool b) ∧ w = w' := by
  cases hf : frB x y
  · have HB : Hid (b = false) := by
      rw [Hid, ← hb]
      refine decide_eq_false fun h => ?_
      have : frB x y = true := decide_eq_true ⟨h.1, by omega, h.2.2⟩
      rw [this] at hf; cases hf
    have HF := Lib.hid (fun w => isFraction_b x y w hf)
    clear hf hb
    go_enter Try.func63, Try.ntmps63
    go_wp2_with ((go_at_call 39; (with_reducible refine (HF.out _).mono ?_); rintro e w' ⟨rfl, rfl⟩))
    go_ret
    exact ⟨by rw [HB.out]; rfl, rfl⟩
  · have HF := Lib.hid (fun w => isFraction_b x y w hf)
    have hf2 := frB_out hf
    by_cases h0 : 0 ≤ x
    · have HB : Hid (b = true) := by
        rw [Hid, ← hb]; exact decide_eq_true ⟨⟨hf2.1, hf2.2.1⟩, h0, hf2.2.2.2⟩
      clear hf hb hf2
      go_enter Try.func63, Try.ntmps63
      go_wp2_with ((go_at_call 39; (with_reducible refine (HF.out _).mono ?_); rintro e w' ⟨rfl, rfl⟩))
      go_ret
      exact ⟨by rw [HB.out]; rfl, rfl⟩
    · have HB : Hid (b = false) := by
        rw [Hid, ← hb]; exact decide_eq_false fun h => h0 h.2.1
      clear hf hb hf2
      go_enter Try.func63, Try.ntmps63
      go_wp2_with ((go_at_call 39; (with_reducible refine (HF.out _).mono ?_); rintro e w' ⟨rfl, rfl⟩))
      go_ret
      exact ⟨by rw [HB.out]; simp; omega, rfl⟩
theorem l05Fraction_b (x y : Int) (w : World) {b : Bool} (hb : chB x y = b) :
    Calls Try.prog 61 #[.int .i64 x, .int .i64 y] w fun e w' => e = .returned (.bool b) ∧ w = w' := by
  by_cases h1 : 1 ≤ y ∧ y ≤ 100
  · have H1 := Lib.hid (fun w => l01In_yes y 1 100 w h1)
    by_cases h2 : 0 ≤ x ∧ x ≤ y
    · have HB : Hid (b = true) := by rw [Hid, ← hb]; exact decide_eq_true ⟨h1, h2⟩
      have H2 := Lib.hid (fun w => l01In_yes x 0 y w h2)
      clear h1 h2 hb
      go_enter Try.func61, Try.ntmps61
      go_wp2_with (first | (go_at_call 37; (with_reducible refine (H1.out _).mono ?_); rintro e w' ⟨rfl, rfl⟩) | (go_at_call 37; (with_reducible refine (H2.out _).mono ?_); rintro e w' ⟨rfl, rfl⟩))
      go_ret
      exact ⟨by rw [HB.out]; rfl, rfl⟩
    · have HB : Hid (b = false) := by rw [Hid, ← hb]; exact decide_eq_false fun h => h2 h.2
      have H2 := Lib.hid (fun w => l01In_no x 0 y w h2)
      clear h1 h2 hb
      go_enter Try.func61, Try.ntmps61
      go_wp2_with (first | (go_at_call 37; (with_reducible refine (H1.out _).mono ?_); rintro e w' ⟨rfl, rfl⟩) | (go_at_call 37; (with_reducible refine (H2.out _).mono ?_); rintro e w' ⟨rfl, rfl⟩))
      go_ret
      exact ⟨by rw [HB.out]; rfl, rfl⟩
  · have HB : Hid (b = false) := by rw [Hid, ← hb]; exact decide_eq_false fun h => h1 h.1
    have H1 := Lib.hid (fun w => l01In_no y 1 100 w h1)
    clear h1 hb
    go_enter Try.func61, Try.ntmps61
    go_wp2_with (go_at_call 37; (with_reducible refine (H1.out _).mono ?_); rintro e w' ⟨rfl, rfl⟩)
    go_ret
    exact ⟨by rw [HB.out]; rfl, rfl⟩

/-! ### the numbers -/
def okCh (c : List Int) : Bool := decide (c.length = 2) && chB (c.getD 0 0) (c.getD 1 0)
theorem okCh_out {c : List Int} (h : okCh c = true) : c.length = 2 ∧ 1 ≤ c.getD 1 0 ∧ c.getD 1 0 ≤ 100 ∧ 0 ≤ c.getD 0 0 ∧ c.getD 0 0 ≤ c.getD 1 0 := by
  unfold okCh at h
  rw [Bool.and_eq_true, decide_eq_true_iff] at h
  exact ⟨h.1, chB_out h.2⟩
/-- the product of the first numbers -/
def prodZ (f : Nat → Int) : Nat → Int
  | 0 => 1
  | k + 1 => prodZ f k * f k
theorem prodZ_bd {f : Nat → Int} {k : Nat} (h : ∀ i, i < k → 0 ≤ f i ∧ f i ≤ 100) (h5 : k ≤ 5) : 0 ≤ prodZ f k ∧ prodZ f k ≤ 10000000000 := by
  have main : ∀ k, (∀ i, i < k → 0 ≤ f i ∧ f i ≤ 100) → 0 ≤ prodZ f k ∧ prodZ f k ≤ 100 ^ k := by
    intro k
    induction k with
    | zero => intro _; exact ⟨by simp [prodZ], by simp [prodZ]⟩
    | succ k ih =>
      intro h
      obtain ⟨a, b⟩ := ih fun i hi => h i (by omega)
      have hk := h k (by omega)
      simp only [prodZ]
      exact ⟨Int.mul_nonneg a hk.1, by rw [Int.pow_succ]; exact Int.mul_le_mul b hk.2 hk.1 (Int.pow_nonneg (by decide))⟩
  obtain ⟨a, b⟩ := main k h
  refine ⟨a, Int.le_trans b ?_⟩
  have : ∀ m : Fin 6, (100 : Int) ^ m.val ≤ 10000000000 := by decide
  exact this ⟨k, by omega⟩
theorem prodZ_pos {f : Nat → Int} {k : Nat} (h : ∀ i, i < k → 1 ≤ f i) : 1 ≤ prodZ f k := by
  induction k with
  | zero => exact Int.le_refl _
  | succ k ih =>
    simp only [prodZ]
    have a := ih fun i hi => h i (by omega)
    have b := h k (by omega)
    have := Int.mul_le_mul a b (by decide) (by omega)
    omega
def belowF (xss : List (List Int)) : Nat → Int := fun i => (xss.getD i []).getD 1 0
/-- the share of a row -/
def shareF (xss : List (List Int)) (k : Nat) : Nat → Int := fun i => if digZ (k : Int) (i : Int) = 1 then (xss.getD i []).getD 0 0 else (xss.getD i []).getD 1 0 - (xss.getD i []).getD 0 0
def overZ (v : Int) (xss : List (List Int)) (n : Nat) : Nat → Int
  | 0 => 0
  | k + 1 => overZ v xss n k + digZ v (k : Int) * prodZ (shareF xss k) n
theorem share_bd {xss : List (List Int)} {n : Nat} (h : ∀ i, i < n → okCh (xss.getD i []) = true) (k i : Nat) (hi : i < n) : 0 ≤ shareF xss k i ∧ shareF xss k i ≤ 100 := by
  have := okCh_out (h i hi)
  unfold shareF
  split <;> omega
theorem overZ_bd {v : Int} {xss : List (List Int)} {n : Nat} (h : ∀ i, i < n → okCh (xss.getD i []) = true) (n5 : n ≤ 5) (k : Nat) : 0 ≤ overZ v xss n k ∧ overZ v xss n k ≤ (k : Int) * 10000000000 := by
  induction k with
  | zero => exact ⟨Int.le_refl _, by simp [overZ]⟩
  | succ k ih =>
    have hs := prodZ_bd (f := shareF xss k) (k := n) (fun i hi => share_bd h k i hi) n5
    simp only [overZ]
    rcases (show digZ v (k : Int) = 0 ∨ digZ v (k : Int) = 1 by have := digZ_bd v (k : Int); omega) with e | e <;> rw [e] <;> omega
def apOk (n v : Int) (xss : List (List Int)) : Bool := decide ((xss.length : Int) = n ∧ ∀ i, i < xss.length → okCh (xss.getD i []) = true)
def resChanceApart_0 (n v : Int) (xss : List (List Int)) : Int := if isTab n v = true then (if apOk n v xss = true then lowA (overZ v xss n.toNat (2 ^ n.toNat)) (prodZ (belowF xss) n.toNat) else 0) else 0
def resChanceApart_1 (n v : Int) (xss : List (List Int)) : Int := if isTab n v = true then (if apOk n v xss = true then lowB (overZ v xss n.toNat (2 ^ n.toNat)) (prodZ (belowF xss) n.toNat) else 0) else 0
def resChanceApart_2 (n v : Int) (xss : List (List Int)) : Int := if isTab n v = true then (if apOk n v xss = true then 0 else 2) else 1
theorem ap_none {n v : Int} {xss : List (List Int)} (h : isTab n v = false) : resChanceApart_0 n v xss = 0 ∧ resChanceApart_1 n v xss = 0 ∧ resChanceApart_2 n v xss = 1 := by
  have h' : ¬ isTab n v = true := by rw [h]; exact Bool.false_ne_true
  exact ⟨if_neg h', if_neg h', if_neg h'⟩
theorem ap_no {n v : Int} {xss : List (List Int)} (h : isTab n v = true) (h2 : ¬ ((xss.length : Int) = n ∧ ∀ i, i < xss.length → okCh (xss.getD i []) = true)) : resChanceApart_0 n v xss = 0 ∧ resChanceApart_1 n v xss = 0 ∧ resChanceApart_2 n v xss = 2 := by
  have h' : ¬ apOk n v xss = true := by unfold apOk; rw [decide_eq_false h2]; exact Bool.false_ne_true
  unfold resChanceApart_0 resChanceApart_1 resChanceApart_2
  rw [if_pos h, if_pos h, if_pos h, if_neg h', if_neg h', if_neg h']
  exact ⟨rfl, rfl, rfl⟩
theorem ap_yes {n v : Int} {xss : List (List Int)} (h : isTab n v = true) (h2 : (xss.length : Int) = n ∧ ∀ i, i < xss.length → okCh (xss.getD i []) = true) :
    resChanceApart_0 n v xss = lowA (overZ v xss n.toNat (2 ^ n.toNat)) (prodZ (belowF xss) n.toNat) ∧ resChanceApart_1 n v xss = lowB (overZ v xss n.toNat (2 ^ n.toNat)) (prodZ (belowF xss) n.toNat) ∧ resChanceApart_2 n v xss = 0 := by
  have h' : apOk n v xss = true := decide_eq_true h2
  unfold resChanceApart_0 resChanceApart_1 resChanceApart_2
  rw [if_pos h, if_pos h, if_pos h, if_pos h', if_pos h', if_pos h']
  exact ⟨rfl, rfl, rfl⟩

/-! ### the rows in memory -/
/-- each of the first n rows is a pair of numbers -/
def Pairs (w : World) (b off n : Nat) (xss : List (List Int)) : Prop :=
  ∀ i, i < n → ∃ rb ro rc, w.cell? ⟨b, off + i, none⟩ = some (.slice (some ⟨rb, ro, none⟩) 2 rc) ∧ w.cell? ⟨rb, ro, none⟩ = some (.int .i64 ((xss.getD i []).getD 0 0)) ∧ w.cell? ⟨rb, ro + 1, none⟩ = some (.int .i64 ((xss.getD i []).getD 1 0))
theorem Pairs.keep {w w' : World} {b off n : Nat} {xss : List (List Int)} (h : Pairs w b off n xss) (hb : Below w.heap.size w w') : Pairs w' b off n xss := fun i hi => by
  obtain ⟨rb, ro, rc, h1, h2, h3⟩ := h i hi
  exact ⟨rb, ro, rc, cell_later hb h1, cell_later hb h2, cell_later hb h3⟩
theorem pairs_of {w : World} {b off : Nat} {xss : List (List Int)} {i : Nat} {u : Value} (hc : w.cell? ⟨b, off + i, none⟩ = some u) (hr : Reads w u (xss.getD i [])) (hl : (xss.getD i []).length = 2) :
    ∃ rb ro rc, w.cell? ⟨b, off + i, none⟩ = some (.slice (some ⟨rb, ro, none⟩) 2 rc) ∧ w.cell? ⟨rb, ro, none⟩ = some (.int .i64 ((xss.getD i []).getD 0 0)) ∧ w.cell? ⟨rb, ro + 1, none⟩ = some (.int .i64 ((xss.getD i []).getD 1 0)) := by
  obtain ⟨a, c, rfl, _, h⟩ := hr
  rcases h with h | ⟨rb, ro, rfl, h⟩
  · rw [h] at hl; cases hl
  · rw [hl] at hc
    exact ⟨rb, ro, c, hc, h 0 (by omega), h 1 (by omega)⟩

end Go.Proofs.Ytibfenkaoaclfaa
