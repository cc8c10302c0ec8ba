/- Polynomials: powers, sums of powers, and what stays of them when numbers wrap round. Plain mathematics. -/
import Derived.Test.YtibfenkaoaclfaaPolM
namespace Go.Proofs.Ytibfenkaoaclfaa
open Go.RowKit
set_option linter.unusedVariables false

theorem timesL_one (q : List Int) : timesL [1] q = q := by
  have : timesL [1] q = listF q.length (cf q) := by
    unfold timesL
    rw [show [(1 : Int)].length + q.length - 1 = q.length by simp]
    exact listF_congr fun k _ => by rw [cf_one, mulF_cst, Int.one_mul]
  rw [this, listF_cf]
theorem timesL_cst (p : List Int) (c : Int) : timesL p [c] = listF p.length (fun k => c * cf p k) := by
  unfold timesL
  rw [show p.length + [c].length - 1 = p.length by simp]
  exact listF_congr fun k _ => by rw [cf_one, mulF_cst_right]
theorem timesL_one_right (p : List Int) : timesL p [1] = p := by
  rw [timesL_cst]
  have : listF p.length (fun k => 1 * cf p k) = listF p.length (cf p) := listF_congr fun k _ => Int.one_mul _
  rw [this, listF_cf]

/-- a power of a polynomial -/
def powL (q : List Int) : Nat → List Int
  | 0 => [1]
  | k + 1 => timesL (powL q k) q
theorem powL_len (q : List Int) (h : 1 ≤ q.length) (k : Nat) : (powL q k).length = (q.length - 1) * k + 1 := by
  induction k with
  | zero => simp [powL]
  | succ k ih => rw [powL, timesL_len, ih, Nat.mul_succ]; omega
theorem powL_pos (q : List Int) (h : 1 ≤ q.length) (k : Nat) : 1 ≤ (powL q k).length := by rw [powL_len q h]; omega
theorem powL_comm (q : List Int) (h : 1 ≤ q.length) (k : Nat) : timesL q (powL q k) = powL q (k + 1) := by
  induction k with
  | zero => simp only [powL]; rw [timesL_one_right, timesL_one]
  | succ k ih =>
    rw [powL, ← timesL_assoc q (powL q k) q h (powL_pos q h k) h, ih]; rfl
theorem powL_add (q : List Int) (h : 1 ≤ q.length) (i j : Nat) : timesL (powL q i) (powL q j) = powL q (i + j) := by
  induction j with
  | zero => simp only [powL]; rw [timesL_one_right]; rfl
  | succ j ih => rw [powL, ← timesL_assoc _ _ _ (powL_pos q h i) (powL_pos q h j) h, ih]; rfl
theorem powL_sq (q : List Int) (h : 1 ≤ q.length) (k : Nat) : powL (timesL q q) k = powL q (2 * k) := by
  induction k with
  | zero => rfl
  | succ k ih =>
    have e : timesL q q = powL q 2 := by simp only [powL]; rw [timesL_one]
    rw [powL, ih, e, powL_add q h]
    rfl

/-! ### numbers that wrap round -/
def W (xs : List Int) : List Int := xs.map wrap64
theorem W_len (xs : List Int) : (W xs).length = xs.length := by simp [W]
theorem wrap_eq_iff (a b : Int) : wrap64 a = wrap64 b ↔ (18446744073709551616 : Int) ∣ a - b := by
  unfold wrap64
  constructor
  · intro h; omega
  · intro h; omega
theorem wrap_wrap_add (a b : Int) : wrap64 (wrap64 a + b) = wrap64 (a + b) := by unfold wrap64; omega
theorem wrap_add_wrap (a b : Int) : wrap64 (a + wrap64 b) = wrap64 (a + b) := by unfold wrap64; omega
theorem wrap_idem (a : Int) : wrap64 (wrap64 a) = wrap64 a := by unfold wrap64; omega
theorem wrap_dvd (a : Int) : (18446744073709551616 : Int) ∣ wrap64 a - a := by unfold wrap64; omega
theorem wrap_mul_left (a b : Int) : wrap64 (wrap64 a * b) = wrap64 (a * b) := by
  rw [wrap_eq_iff, ← Int.sub_mul]
  exact Int.dvd_trans (wrap_dvd a) (Int.dvd_mul_right _ _)
theorem wrap_mul_right (a b : Int) : wrap64 (a * wrap64 b) = wrap64 (a * b) := by
  rw [Int.mul_comm, wrap_mul_left, Int.mul_comm]
theorem wrap_congr_add {a a' b b' : Int} (h1 : wrap64 a = wrap64 a') (h2 : wrap64 b = wrap64 b') : wrap64 (a + b) = wrap64 (a' + b') := by
  rw [← wrap_wrap_add, ← wrap_add_wrap, h1, h2, wrap_add_wrap, wrap_wrap_add]
theorem wrap_congr_mul {a a' b b' : Int} (h1 : wrap64 a = wrap64 a') (h2 : wrap64 b = wrap64 b') : wrap64 (a * b) = wrap64 (a' * b') := by
  rw [← wrap_mul_left, ← wrap_mul_right, h1, h2, wrap_mul_right, wrap_mul_left]
theorem mulF_wrap {f f' g g' : Nat → Int} (k : Nat) (hf : ∀ i, wrap64 (f i) = wrap64 (f' i)) (hg : ∀ i, wrap64 (g i) = wrap64 (g' i)) : wrap64 (mulF f g k) = wrap64 (mulF f' g' k) := by
  induction k generalizing f f' with
  | zero => simp only [mulF]; exact wrap_congr_mul (hf 0) (hg 0)
  | succ k ih =>
    simp only [mulF]
    exact wrap_congr_add (wrap_congr_mul (hf 0) (hg _)) (ih (f := fun n => f (n + 1)) (f' := fun n => f' (n + 1)) fun i => hf (i + 1))
theorem cf_W (xs : List Int) (i : Nat) : cf (W xs) i = wrap64 (cf xs i) := by
  unfold cf W
  by_cases h : i < xs.length
  · simp [List.getD_eq_getElem?_getD, h]
  · simp [List.getD_eq_getElem?_getD, List.getElem?_eq_none (by omega : xs.length ≤ i)]
    unfold wrap64; rfl
theorem W_listF (n : Nat) (f : Nat → Int) : W (listF n f) = listF n (fun k => wrap64 (f k)) := by
  simp [W, listF, Function.comp_def]
theorem W_W (xs : List Int) : W (W xs) = W xs := by
  unfold W; rw [List.map_map]; exact List.map_congr_left fun x _ => wrap_idem x
theorem W_times (f g : List Int) : W (timesL (W f) (W g)) = W (timesL f g) := by
  unfold timesL
  rw [W_len, W_len, W_listF, W_listF]
  exact listF_congr fun k _ => mulF_wrap k (fun i => by rw [cf_W, wrap_idem]) (fun i => by rw [cf_W, wrap_idem])
theorem W_plus (f g : List Int) : W (plusL (W f) (W g)) = W (plusL f g) := by
  unfold plusL
  rw [W_len, W_len, W_listF, W_listF]
  exact listF_congr fun k _ => wrap_congr_add (by rw [cf_W, wrap_idem]) (by rw [cf_W, wrap_idem])
/-- a list of int64s is its own -/
theorem W_self (xs : List Int) (h : ∀ x ∈ xs, wrap64 x = x) : W xs = xs := by
  unfold W
  have : xs.map wrap64 = xs.map id := List.map_congr_left fun x hx => h x hx
  rw [this, List.map_id]

/-! ### the sum of powers, and Horner's way -/
/-- one polynomial put into another: the sum of the powers so far -/
def putTo (xs g : List Int) : Nat → List Int
  | 0 => [0]
  | i + 1 => plusL (putTo xs g i) (timesL (powL g i) [xs.getD i 0])
/-- one polynomial put into another, from the last coefficient on -/
def horner (g : List Int) : List Int → List Int
  | [] => []
  | [c] => [c]
  | c :: d :: t => plusL [c] (timesL (horner g (d :: t)) g)
def sumOfF (f : Nat → Int) : Nat → Int
  | 0 => 0
  | n + 1 => sumOfF f n + f n
theorem sumOfF_congr {f g : Nat → Int} {n : Nat} (h : ∀ i, i < n → f i = g i) : sumOfF f n = sumOfF g n := by
  induction n with
  | zero => rfl
  | succ n ih => simp only [sumOfF]; rw [ih fun i hi => h i (by omega), h n (by omega)]
theorem sumOfF_first (f : Nat → Int) (n : Nat) : sumOfF f (n + 1) = f 0 + sumOfF (fun i => f (i + 1)) n := by
  induction n with
  | zero => simp [sumOfF]
  | succ n ih => rw [sumOfF, ih, sumOfF]; omega
theorem putTo_len (xs g : List Int) (hg : 1 ≤ g.length) (i : Nat) : (putTo xs g i).length = (g.length - 1) * (i - 1) + 1 := by
  induction i with
  | zero => simp [putTo]
  | succ i ih =>
    rw [putTo, plusL_len, ih, timesL_len, powL_len g hg]
    have : (g.length - 1) * (i - 1) ≤ (g.length - 1) * i := Nat.mul_le_mul_left _ (by omega)
    simp only [List.length_singleton, Nat.add_sub_cancel]
    omega
theorem cf_putTo (xs g : List Int) (i k : Nat) : cf (putTo xs g i) k = sumOfF (fun j => xs.getD j 0 * cf (powL g j) k) i := by
  induction i with
  | zero => rw [putTo, sumOfF]; cases k <;> rfl
  | succ i ih =>
    rw [putTo, cf_plusL, sumOfF]
    simp only []
    rw [ih, cf_timesL, cf_one, mulF_cst_right]
theorem horner_len (g : List Int) (hg : 1 ≤ g.length) : ∀ xs : List Int, 1 ≤ xs.length → (horner g xs).length = (g.length - 1) * (xs.length - 1) + 1
  | [], h => by simp at h
  | [c], _ => by simp [horner]
  | c :: d :: t, _ => by
    rw [horner, plusL_len, timesL_len, horner_len g hg (d :: t) (by simp)]
    simp only [List.length_cons, List.length_nil, Nat.add_sub_cancel, Nat.mul_succ]
    omega
theorem mulF_sum (f : Nat → Nat → Int) (x : Nat → Int) (g : Nat → Int) (n k : Nat) : mulF (fun m => sumOfF (fun j => x j * f j m) n) g k = sumOfF (fun j => x j * mulF (f j) g k) n := by
  induction n with
  | zero => simp only [sumOfF]; exact mulF_zero g k
  | succ n ih => simp only [sumOfF]; rw [mulF_add (fun m => sumOfF (fun j => x j * f j m) n) (fun m => x n * f n m), ih, mulF_smul (x n) (f n) g k]
theorem cf_horner (g : List Int) : ∀ (xs : List Int) (k : Nat), cf (horner g xs) k = sumOfF (fun j => xs.getD j 0 * cf (powL g j) k) xs.length
  | [], k => by simp [horner, sumOfF, cf]
  | [c], k => by
    rw [horner, cf_one]
    simp only [List.length_cons, List.length_nil, sumOfF, powL, cf_one]
    unfold cstF
    by_cases h : k = 0 <;> simp [h]
  | c :: d :: t, k => by
    rw [horner, cf_plusL]
    simp only []
    rw [cf_timesL]
    have e : cf (horner g (d :: t)) = fun m => sumOfF (fun j => (d :: t).getD j 0 * cf (powL g j) m) (d :: t).length := funext (cf_horner g (d :: t))
    rw [e, mulF_sum (fun j => cf (powL g j)) (fun j => (d :: t).getD j 0) (cf g), cf_one, show (c :: d :: t).length = (d :: t).length + 1 from rfl, sumOfF_first]
    congr 1
    · simp only [List.getD_cons_zero, powL, cf_one]
      unfold cstF
      by_cases h : k = 0 <;> simp [h]
    · refine sumOfF_congr fun i _ => ?_
      simp only [List.getD_cons_succ, powL]
      rw [cf_timesL]
theorem list_ext_cf {a b : List Int} (hl : a.length = b.length) (h : ∀ k, cf a k = cf b k) : a = b := by
  rw [← listF_cf a, ← listF_cf b, hl]
  exact listF_congr fun k _ => h k
theorem put_horner (xs g : List Int) (hx : 1 ≤ xs.length) (hg : 1 ≤ g.length) : putTo xs g xs.length = horner g xs := by
  apply list_ext_cf
  · rw [putTo_len xs g hg, horner_len g hg xs hx]
  · intro k; rw [cf_putTo, cf_horner]

end Go.Proofs.Ytibfenkaoaclfaa
