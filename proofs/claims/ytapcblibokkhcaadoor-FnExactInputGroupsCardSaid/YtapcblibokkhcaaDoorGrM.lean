/- Groups of inputs that are alike with each other (plain mathematics). -/
import Derived.Test.YtapcblibokkhcaaDoorMath
namespace Go.Proofs.YtapcblibokkhcaaDoor
open Go.RowKit
set_option linter.unusedVariables false

/-- is no smaller input alike with i -/
def lst (al : Nat → Nat → Bool) (i : Nat) : Bool := (List.range i).all fun j => !al j i
theorem lst_iff {al : Nat → Nat → Bool} {i : Nat} : lst al i = true ↔ ∀ j, j < i → al j i = false := by
  unfold lst
  rw [List.all_eq_true]
  constructor
  · intro h j hj; have := h j (List.mem_range.2 hj); simpa using this
  · intro h j hj; rw [h j (List.mem_range.1 hj)]; rfl
/-- the least inputs of the groups, of the first k inputs -/
def lstL (al : Nat → Nat → Bool) (k : Nat) : List Nat := (List.range k).filter (lst al)
theorem lstL_succ (al : Nat → Nat → Bool) (k : Nat) : lstL al (k + 1) = if lst al k then lstL al k ++ [k] else lstL al k := by
  unfold lstL
  rw [List.range_succ, List.filter_append]
  cases h : lst al k <;> simp [h]
theorem lstL_len (al : Nat → Nat → Bool) (k : Nat) : (lstL al k).length ≤ k := by
  induction k with
  | zero => simp [lstL]
  | succ k ih =>
    rw [lstL_succ]; split
    · simp; omega
    · omega
theorem lstL_mem {al : Nat → Nat → Bool} {k i : Nat} : i ∈ lstL al k ↔ i < k ∧ lst al i = true := by
  unfold lstL; rw [List.mem_filter, List.mem_range]
theorem lstL_lt {al : Nat → Nat → Bool} {k a b : Nat} (hb : b < (lstL al k).length) (hab : a < b) : (lstL al k).getD a 0 < (lstL al k).getD b 0 := by
  induction k with
  | zero => simp [lstL] at hb
  | succ k ih =>
    rw [lstL_succ] at hb ⊢
    split
    · rename_i h
      rw [if_pos h] at hb
      simp only [List.length_append, List.length_singleton] at hb
      by_cases e : b = (lstL al k).length
      · subst e
        have h1 : (lstL al k ++ [k]).getD (lstL al k).length 0 = k := by simp [List.getD_eq_getElem?_getD]
        have h2 : (lstL al k ++ [k]).getD a 0 = (lstL al k).getD a 0 := by
          simp only [List.getD_eq_getElem?_getD]; rw [List.getElem?_append_left hab]
        have hm : (lstL al k).getD a 0 ∈ lstL al k := by
          rw [List.getD_eq_getElem?_getD, List.getElem?_eq_getElem hab]; exact List.getElem_mem hab
        rw [h1, h2]; exact (lstL_mem.1 hm).1
      · have e1 : ∀ c, c < (lstL al k).length → (lstL al k ++ [k]).getD c 0 = (lstL al k).getD c 0 := fun c hc => by
          simp only [List.getD_eq_getElem?_getD]; rw [List.getElem?_append_left hc]
        rw [e1 a (by omega), e1 b (by omega)]
        exact ih (by omega)
    · rename_i h
      rw [if_neg h] at hb
      exact ih hb
theorem lstL_at {al : Nat → Nat → Bool} {k a : Nat} (h : a < (lstL al k).length) : (lstL al k).getD a 0 < k ∧ lst al ((lstL al k).getD a 0) = true := by
  apply lstL_mem.1
  rw [List.getD_eq_getElem?_getD, List.getElem?_eq_getElem h]; exact List.getElem_mem h

/-- alike with each other, below n -/
structure Equiv (al : Nat → Nat → Bool) (n : Nat) : Prop where
  self : ∀ i, al i i = true
  symm : ∀ i j, i < n → j < n → al i j = true → al j i = true
  trans : ∀ i j k, i < n → j < n → k < n → al i j = true → al i k = true → al j k = true
/-- the least input of the group of i -/
theorem least_of {al : Nat → Nat → Bool} {n : Nat} (E : Equiv al n) : ∀ i, i < n → ∃ m, m ≤ i ∧ lst al m = true ∧ al m i = true := by
  intro i
  induction i using Nat.strongRecOn with
  | _ i ih =>
    intro hi
    cases h : lst al i
    · have : ∃ j, j < i ∧ al j i = true := by
        rcases Classical.em (∃ j, j < i ∧ al j i = true) with h1 | h1
        · exact h1
        · have := (lst_iff (al := al) (i := i)).2 fun j hj => by
            cases e : al j i
            · rfl
            · exact absurd ⟨j, hj, e⟩ h1
          rw [h] at this; cases this
      obtain ⟨j, hj, ha⟩ := this
      obtain ⟨m, hm1, hm2, hm3⟩ := ih j hj (by omega)
      refine ⟨m, by omega, hm2, ?_⟩
      have h1 := E.symm m j (by omega) (by omega) hm3
      exact E.trans j m i (by omega) (by omega) hi h1 ha
    · exact ⟨i, Nat.le_refl _, h, E.self i⟩
/-- the members of the group of i among the first k inputs -/
def rowG (al : Nat → Nat → Bool) (k i : Nat) : List Int := ((List.range k).filter fun j => decide (i ≤ j) && al i j).map fun (j : Nat) => (j : Int)
theorem rowG_succ (al : Nat → Nat → Bool) (k i : Nat) (h : i ≤ k) : rowG al (k + 1) i = if al i k then rowG al k i ++ [(k : Int)] else rowG al k i := by
  unfold rowG
  rw [List.range_succ, List.filter_append]
  cases ha : al i k <;> simp [ha, h]
theorem rowG_own {al : Nat → Nat → Bool} {k : Nat} (h : al k k = true) : rowG al (k + 1) k = [(k : Int)] := by
  rw [rowG_succ _ _ _ (Nat.le_refl _), h, if_pos rfl]
  have : rowG al k k = [] := by
    unfold rowG
    rw [List.map_eq_nil_iff, List.filter_eq_nil_iff]
    intro j hj
    have := List.mem_range.1 hj
    simp; omega
  rw [this]; rfl
/-- the groups of the first k inputs -/
def grps (al : Nat → Nat → Bool) (k : Nat) : List (List Int) := (lstL al k).map (rowG al k)
theorem grps_len (al : Nat → Nat → Bool) (k : Nat) : (grps al k).length = (lstL al k).length := by simp [grps]
theorem grps_at {al : Nat → Nat → Bool} {k a : Nat} (h : a < (lstL al k).length) : (grps al k).getD a [] = rowG al k ((lstL al k).getD a 0) := by
  unfold grps
  rw [List.getD_eq_getElem?_getD, List.getElem?_map, List.getD_eq_getElem?_getD, List.getElem?_eq_getElem h]; rfl
theorem rowG_head {al : Nat → Nat → Bool} {k i : Nat} (hi : i < k) (hs : al i i = true) : (rowG al k i).getD 0 0 = (i : Int) ∧ 1 ≤ (rowG al k i).length ∧ (rowG al k i).length ≤ k := by
  induction k with
  | zero => omega
  | succ k ih =>
    by_cases e : i = k
    · subst e; rw [rowG_own hs]; simp
    · have := ih (by omega)
      rw [rowG_succ _ _ _ (by omega)]
      split
      · refine ⟨?_, by simp, by simp; omega⟩
        rw [List.getD_eq_getElem?_getD, List.getElem?_append_left (by omega), ← List.getD_eq_getElem?_getD]
        exact this.1
      · exact ⟨this.1, this.2.1, by omega⟩
/-- a new group -/
theorem grps_new {al : Nat → Nat → Bool} {n k : Nat} (E : Equiv al n) (hk : k < n) (h : ∀ a, a < (lstL al k).length → al ((lstL al k).getD a 0) k = false) : grps al (k + 1) = grps al k ++ [[(k : Int)]] := by
  have hl : lst al k = true := by
    cases e : lst al k
    · obtain ⟨m, h1, h2, h3⟩ := least_of E k hk
      have hm : m ≠ k := fun hh => by rw [hh, e] at h2; cases h2
      have hmem : m ∈ lstL al k := lstL_mem.2 ⟨by omega, h2⟩
      obtain ⟨a, ha, hae⟩ := List.getElem_of_mem hmem
      have := h a ha
      rw [List.getD_eq_getElem?_getD, List.getElem?_eq_getElem ha, hae] at this
      simp only [Option.getD_some] at this
      rw [h3] at this; cases this
    · rfl
  unfold grps
  rw [lstL_succ, if_pos hl, List.map_append, List.map_singleton, rowG_own (E.self k)]
  congr 1
  apply List.map_congr_left
  intro i hi
  have him := lstL_mem.1 hi
  rw [rowG_succ _ _ _ (by omega), if_neg]
  rw [lst_iff.1 hl i him.1]; simp
/-- a member more of a group -/
theorem grps_more {al : Nat → Nat → Bool} {n k a : Nat} (E : Equiv al n) (hk : k < n) (ha : a < (lstL al k).length) (hyes : al ((lstL al k).getD a 0) k = true) :
    grps al (k + 1) = (grps al k).set a ((grps al k).getD a [] ++ [(k : Int)]) := by
  have hat := lstL_at ha
  have hl : lst al k = false := by
    cases e : lst al k
    · rfl
    · rw [lst_iff.1 e _ hat.1] at hyes; cases hyes
  have hone : ∀ b, b < (lstL al k).length → b ≠ a → al ((lstL al k).getD b 0) k = false := by
    intro b hb hba
    cases e : al ((lstL al k).getD b 0) k
    · rfl
    · have hbt := lstL_at hb
      have key : ∀ x y, x < k → y < k → x < y → lst al y = true → al x k = true → al y k = true → False := by
        intro x y hx hy hxy hly h1 h2
        have s1 := E.symm x k (by omega) hk h1
        have s2 := E.symm y k (by omega) hk h2
        have := E.trans k x y hk (by omega) (by omega) s1 s2
        rw [lst_iff.1 hly x hxy] at this; cases this
      exfalso
      rcases Nat.lt_or_gt_of_ne hba with h1 | h1
      · exact key _ _ hbt.1 hat.1 (lstL_lt ha h1) hat.2 e hyes
      · exact key _ _ hat.1 hbt.1 (lstL_lt hb h1) hbt.2 hyes e
  apply List.ext_getElem?
  intro b
  by_cases hb : b < (lstL al k).length
  · have e1 : (grps al (k + 1))[b]? = some (rowG al (k + 1) ((lstL al k).getD b 0)) := by
      unfold grps
      rw [lstL_succ, if_neg (by rw [hl]; simp), List.getElem?_map, List.getD_eq_getElem?_getD, List.getElem?_eq_getElem hb]; rfl
    have e2 : (grps al k)[b]? = some (rowG al k ((lstL al k).getD b 0)) := by
      unfold grps
      rw [List.getElem?_map, List.getD_eq_getElem?_getD, List.getElem?_eq_getElem hb]; rfl
    rw [e1, List.getElem?_set]
    have hbt := lstL_at hb
    by_cases hba : a = b
    · subst hba
      rw [if_pos rfl, if_pos (by rw [grps_len]; exact hb), grps_at hb, rowG_succ _ _ _ (by omega), if_pos hyes]
    · rw [if_neg hba, e2, rowG_succ _ _ _ (by omega), if_neg (by rw [hone b hb (Ne.symm hba)]; simp)]
  · rw [List.getElem?_eq_none (by rw [grps_len, lstL_succ, if_neg (by rw [hl]; simp)]; omega), List.getElem?_eq_none (by rw [List.length_set, grps_len]; omega)]
/-- one group alone -/
theorem grps_one {al : Nat → Nat → Bool} {n : Nat} (E : Equiv al n) (h1 : 1 ≤ n) : (grps al n).length = 1 ↔ ∀ i, 1 ≤ i → i < n → al 0 i = true := by
  rw [grps_len]
  have h0 : 0 ∈ lstL al n := lstL_mem.2 ⟨by omega, lst_iff.2 fun j hj => by omega⟩
  constructor
  · intro h i hi1 hi
    obtain ⟨m, hm1, hm2, hm3⟩ := least_of E i hi
    have hmem : m ∈ lstL al n := lstL_mem.2 ⟨by omega, hm2⟩
    obtain ⟨x, hx⟩ := List.length_eq_one_iff.1 h
    rw [hx] at h0 hmem
    have e0 : 0 = x := by simpa using h0
    have em : m = x := by simpa using hmem
    rw [em, ← e0] at hm3; exact hm3
  · intro h
    have : ∀ k, 1 ≤ k → k ≤ n → lstL al k = [0] := by
      intro k
      induction k with
      | zero => intro h; omega
      | succ k ih =>
        intro _ hk
        rw [lstL_succ]
        by_cases e : k = 0
        · subst e
          have : lst al 0 = true := lst_iff.2 fun j hj => by omega
          rw [if_pos this]; rfl
        · have : lst al k = false := by
            cases e2 : lst al k
            · rfl
            · have := lst_iff.1 e2 0 (by omega)
              rw [h k (by omega) (by omega)] at this; cases this
          rw [if_neg (by rw [this]; simp)]
          exact ih (by omega) (by omega)
    rw [this n h1 (Nat.le_refl _)]; rfl

end Go.Proofs.YtapcblibokkhcaaDoor
