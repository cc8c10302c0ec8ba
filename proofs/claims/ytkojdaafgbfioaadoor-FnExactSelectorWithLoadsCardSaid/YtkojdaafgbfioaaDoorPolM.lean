/- Polynomials: plain mathematics of coefficients. No program in sight. -/
import Derived.WalkKit
import Derived.IntWalk
namespace Go.Proofs.YtkojdaafgbfioaaDoor
open Go.RowKit
set_option linter.unusedVariables false

/-- the product of two polynomials, told by all their coefficients -/
def mulF (f g : Nat → Int) : Nat → Int
  | 0 => f 0 * g 0
  | k + 1 => f 0 * g (k + 1) + mulF (fun n => f (n + 1)) g k
theorem mulF_congr {f f' g g' : Nat → Int} {k : Nat} (hf : ∀ i, i ≤ k → f i = f' i) (hg : ∀ i, i ≤ k → g i = g' i) : mulF f g k = mulF f' g' k := by
  induction k generalizing f f' with
  | zero => simp only [mulF]; rw [hf 0 (Nat.le_refl _), hg 0 (Nat.le_refl _)]
  | succ k ih => simp only [mulF]; rw [hf 0 (by omega), hg (k + 1) (by omega), ih (f := fun n => f (n + 1)) (f' := fun n => f' (n + 1)) (fun i hi => hf (i + 1) (by omega)) (fun i hi => hg i (by omega))]
theorem mulF_add (f f' g : Nat → Int) (k : Nat) : mulF (fun n => f n + f' n) g k = mulF f g k + mulF f' g k := by
  induction k generalizing f f' with
  | zero => simp only [mulF]; rw [Int.add_mul]
  | succ k ih => simp only [mulF]; rw [ih (fun n => f (n + 1)) (fun n => f' (n + 1)), Int.add_mul]; omega
theorem mulF_smul (c : Int) (f g : Nat → Int) (k : Nat) : mulF (fun n => c * f n) g k = c * mulF f g k := by
  induction k generalizing f with
  | zero => simp only [mulF]; rw [Int.mul_assoc]
  | succ k ih => simp only [mulF]; rw [ih (fun n => f (n + 1)), Int.mul_assoc, Int.mul_add]
theorem mulF_assoc (f g h : Nat → Int) (k : Nat) : mulF (mulF f g) h k = mulF f (mulF g h) k := by
  induction k generalizing f with
  | zero => simp only [mulF]; rw [Int.mul_assoc]
  | succ k ih =>
    simp only [mulF]
    rw [mulF_add (fun n => f 0 * g (n + 1)) (fun n => mulF (fun n => f (n + 1)) g n) h k, mulF_smul (f 0) (fun n => g (n + 1)) h k, ih (fun n => f (n + 1)), Int.mul_assoc, Int.mul_add]
    omega
/-- a number as a polynomial -/
def cstF (c : Int) : Nat → Int := fun k => if k = 0 then c else 0
theorem mulF_zero (g : Nat → Int) (k : Nat) : mulF (fun _ => 0) g k = 0 := by
  induction k with
  | zero => simp [mulF]
  | succ k ih => simp [mulF, ih]
theorem mulF_cst (c : Int) (g : Nat → Int) (k : Nat) : mulF (cstF c) g k = c * g k := by
  cases k with
  | zero => simp [mulF, cstF]
  | succ k =>
    simp only [mulF]
    rw [mulF_congr (f' := fun _ => 0) (g' := g) (fun i _ => by simp [cstF]) (fun i _ => rfl), mulF_zero]
    simp [cstF]
theorem mulF_cst_right (f : Nat → Int) (c : Int) (k : Nat) : mulF f (cstF c) k = c * f k := by
  induction k generalizing f with
  | zero => simp [mulF, cstF, Int.mul_comm]
  | succ k ih => simp only [mulF]; rw [ih (fun n => f (n + 1))]; simp [cstF]

/-- the first i rows of a product as the loops build it up -/
def rowsF (f g : Nat → Int) : Nat → Nat → Int
  | 0, _ => 0
  | i + 1, k => rowsF f g i k + if i ≤ k then f i * g (k - i) else 0
theorem rowsF_first (f g : Nat → Int) (i k : Nat) : rowsF f g (i + 1) (k + 1) = f 0 * g (k + 1) + rowsF (fun n => f (n + 1)) g i k := by
  induction i with
  | zero => simp [rowsF]
  | succ i ih =>
    rw [rowsF, ih, rowsF]
    by_cases h : i ≤ k
    · rw [if_pos h, if_pos (by omega), show k + 1 - (i + 1) = k - i by omega]; omega
    · rw [if_neg h, if_neg (by omega)]; omega
theorem mulF_rows (f g : Nat → Int) (k : Nat) : mulF f g k = rowsF f g (k + 1) k := by
  induction k generalizing f with
  | zero => simp [mulF, rowsF]
  | succ k ih => rw [mulF, ih, rowsF_first]
theorem rowsF_more (f g : Nat → Int) (k i d : Nat) (h : ∀ j, i ≤ j → j < i + d → j ≤ k → f j = 0) : rowsF f g (i + d) k = rowsF f g i k := by
  induction d with
  | zero => rfl
  | succ d ih =>
    rw [← Nat.add_assoc, rowsF, ih fun j h1 h2 h3 => h j h1 (by omega) h3]
    by_cases hk : i + d ≤ k
    · rw [if_pos hk, h (i + d) (by omega) (by omega) hk]; simp
    · rw [if_neg hk]; simp
theorem rowsF_all (f g : Nat → Int) (n k : Nat) (h : ∀ j, n ≤ j → f j = 0) : rowsF f g n k = mulF f g k := by
  rw [mulF_rows]
  rcases Nat.le_total n (k + 1) with hn | hn
  · have := rowsF_more f g k n (k + 1 - n) fun j h1 _ _ => h j h1
    rw [show n + (k + 1 - n) = k + 1 by omega] at this
    exact this.symm
  · have := rowsF_more f g k (k + 1) (n - (k + 1)) fun j h1 _ h3 => by omega
    rw [show k + 1 + (n - (k + 1)) = n by omega] at this
    exact this

/-- the coefficients of a list -/
def cf (xs : List Int) : Nat → Int := fun k => xs.getD k 0
theorem cf_beyond (xs : List Int) (k : Nat) (h : xs.length ≤ k) : cf xs k = 0 := by
  simp [cf, List.getD_eq_getElem?_getD, List.getElem?_eq_none h]
/-- a list of so many coefficients -/
def listF (n : Nat) (f : Nat → Int) : List Int := (List.range n).map f
theorem listF_len (n : Nat) (f : Nat → Int) : (listF n f).length = n := by simp [listF]
theorem listF_get (n : Nat) (f : Nat → Int) (k : Nat) (h : k < n) : (listF n f).getD k 0 = f k := by
  simp [listF, List.getD_eq_getElem?_getD, h]
theorem cf_listF (n : Nat) (f : Nat → Int) (h : ∀ k, n ≤ k → f k = 0) : cf (listF n f) = f := by
  funext k
  by_cases hk : k < n
  · exact listF_get n f k hk
  · rw [cf_beyond _ _ (by rw [listF_len]; omega), h k (by omega)]
theorem listF_congr {n : Nat} {f g : Nat → Int} (h : ∀ k, k < n → f k = g k) : listF n f = listF n g := by
  unfold listF
  exact List.map_congr_left fun k hk => h k (by simpa using hk)
theorem listF_cf (xs : List Int) : listF xs.length (cf xs) = xs := by
  apply List.ext_getElem
  · simp [listF]
  · intro i h1 h2
    simp [listF, cf, List.getD_eq_getElem?_getD, h2]
theorem listF_set (n : Nat) (f : Nat → Int) (i : Nat) (v : Int) (hi : i < n) : (listF n f).set i v = listF n (fun k => if k = i then v else f k) := by
  apply List.ext_getElem
  · simp [listF]
  · intro j h1 h2
    simp only [listF_len] at h2
    rw [List.getElem_set]
    simp only [listF, List.getElem_map, List.getElem_range]
    by_cases h : i = j
    · subst h; simp
    · simp [h, Ne.symm h]

/-- a product as the loops have it in the row i, behind j of its members -/
def partF (f g : Nat → Int) (i j : Nat) : Nat → Int := fun k => rowsF f g i k + if i ≤ k ∧ k < i + j then f i * g (k - i) else 0
theorem partF_start (f g : Nat → Int) (i : Nat) : partF f g i 0 = rowsF f g i := by
  funext k; unfold partF; rw [if_neg (by omega)]; simp
theorem partF_step (f g : Nat → Int) (i j : Nat) : (fun k => if k = i + j then partF f g i j (i + j) + f i * g j else partF f g i j k) = partF f g i (j + 1) := by
  funext k
  unfold partF
  by_cases h : k = i + j
  · subst h
    rw [if_pos rfl, if_neg (by omega), if_pos (by omega), show i + j - i = j by omega]; omega
  · rw [if_neg h]
    by_cases h2 : i ≤ k ∧ k < i + j
    · rw [if_pos h2, if_pos (by omega)]
    · rw [if_neg h2, if_neg (by omega)]
theorem partF_all (f g : Nat → Int) (i m : Nat) (h : ∀ j, m ≤ j → g j = 0) : partF f g i m = rowsF f g (i + 1) := by
  funext k
  unfold partF
  rw [rowsF]
  by_cases h1 : i ≤ k
  · by_cases h2 : k < i + m
    · rw [if_pos ⟨h1, h2⟩, if_pos h1]
    · rw [if_neg (by omega), if_pos h1, h (k - i) (by omega)]; simp
  · rw [if_neg (by omega), if_neg h1]
theorem rowsF_beyond (f g : Nat → Int) (n m k : Nat) (hm : ∀ j, m ≤ j → g j = 0) (h : n + m ≤ k + 1) : rowsF f g n k = 0 := by
  induction n with
  | zero => rfl
  | succ n ih =>
    rw [rowsF, ih (by omega)]
    by_cases h1 : n ≤ k
    · rw [if_pos h1, hm (k - n) (by omega)]; simp
    · rw [if_neg h1]; simp

/-- the product of two lists of coefficients -/
def timesL (f g : List Int) : List Int := listF (f.length + g.length - 1) (mulF (cf f) (cf g))
theorem timesL_len (f g : List Int) : (timesL f g).length = f.length + g.length - 1 := listF_len _ _
theorem mulF_beyond (f g : List Int) (k : Nat) (h : f.length + g.length ≤ k + 1) : mulF (cf f) (cf g) k = 0 := by
  rw [← rowsF_all (cf f) (cf g) f.length k fun j hj => cf_beyond f j hj]
  exact rowsF_beyond _ _ _ g.length _ (fun j hj => cf_beyond g j hj) h
theorem cf_timesL (f g : List Int) : cf (timesL f g) = mulF (cf f) (cf g) := cf_listF _ _ fun k hk => mulF_beyond f g k (by omega)
theorem timesL_assoc (f g h : List Int) (hf : 1 ≤ f.length) (hg : 1 ≤ g.length) (hh : 1 ≤ h.length) : timesL (timesL f g) h = timesL f (timesL g h) := by
  unfold timesL
  rw [listF_len, listF_len]
  have e1 := cf_timesL f g
  have e2 := cf_timesL g h
  unfold timesL at e1 e2
  rw [e1, e2, show f.length + g.length - 1 + h.length - 1 = f.length + (g.length + h.length - 1) - 1 by omega]
  exact listF_congr fun k _ => mulF_assoc _ _ _ k
/-- the sum of two lists of coefficients -/
def plusL (f g : List Int) : List Int := listF (max f.length g.length) (fun k => cf f k + cf g k)
theorem plusL_len (f g : List Int) : (plusL f g).length = max f.length g.length := listF_len _ _
theorem cf_plusL (f g : List Int) : cf (plusL f g) = fun k => cf f k + cf g k := cf_listF _ _ fun k hk => by rw [cf_beyond f k (by omega), cf_beyond g k (by omega)]; rfl
theorem cf_one (c : Int) : cf [c] = cstF c := by
  funext k
  cases k with
  | zero => rfl
  | succ k => simp [cf, cstF]

end Go.Proofs.YtkojdaafgbfioaaDoor
