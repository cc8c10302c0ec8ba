/- The best test: mathematics. -/
import Derived.Test.YtkdidplpnhokiaaFaM
import Derived.Test.YtkdidplpnhokiaaDelM
namespace Go.Proofs.Ytkdidplpnhokiaa
open Go.RowKit
set_option linter.unusedVariables false

/-- of the first k tables, those with 1 in a row -/
def cntT (tv : Nat → Int) (row : Int) : Nat → Int
  | 0 => 0
  | k + 1 => cntT tv row k + digZ (tv k) row
theorem cntT_bd (tv : Nat → Int) (row : Int) (k : Nat) : 0 ≤ cntT tv row k ∧ cntT tv row k ≤ (k : Int) := by
  induction k with
  | zero => simp [cntT]
  | succ k ih =>
    have := digZ_bd (tv k) row
    simp only [cntT]
    omega
theorem cntT_congr {tv tv' : Nat → Int} {row : Int} {k : Nat} (h : ∀ i, i < k → tv i = tv' i) : cntT tv row k = cntT tv' row k := by
  induction k with
  | zero => rfl
  | succ k ih => simp only [cntT]; rw [ih fun i hi => h i (by omega), h k (by omega)]
/-- by how much the numbers of tables with 1 and with 0 differ -/
def difT (tv : Nat → Int) (l : Nat) (row : Int) : Int := max (2 * cntT tv row l - (l : Int)) ((l : Int) - 2 * cntT tv row l)
theorem difT_bd (tv : Nat → Int) (l : Nat) (row : Int) : 0 ≤ difT tv l row ∧ difT tv l row ≤ (l : Int) := by
  have := cntT_bd tv row l
  unfold difT
  omega
/-- the first of the least of d 0 .. d (k-1), and it -/
def bm (d : Nat → Int) : Nat → Nat × Int
  | 0 => (0, -1)
  | k + 1 => if (bm d k).2 < 0 ∨ d k < (bm d k).2 then (k, d k) else bm d k
theorem bm_spec {d : Nat → Int} (h0 : ∀ r, 0 ≤ d r) {k : Nat} (hk : 0 < k) : (bm d k).1 < k ∧ (bm d k).2 = d (bm d k).1 ∧ (∀ r, r < k → (bm d k).2 ≤ d r) ∧ ∀ r, r < (bm d k).1 → (bm d k).2 < d r := by
  induction k with
  | zero => omega
  | succ k ih =>
    by_cases e : k = 0
    · subst e
      have h1 : bm d (0 + 1) = (0, d 0) := by simp [bm]
      rw [h1]
      refine ⟨by simp, rfl, fun r hr => ?_, fun r hr => by simp at hr⟩
      have : r = 0 := by omega
      subst this; exact Int.le_refl _
    · obtain ⟨a1, a2, a3, a4⟩ := ih (by omega)
      have hn : ¬ (bm d k).2 < 0 := by rw [a2]; have := h0 (bm d k).1; omega
      by_cases hlt : d k < (bm d k).2
      · have h1 : bm d (k + 1) = (k, d k) := if_pos (.inr hlt)
        rw [h1]
        refine ⟨by simp, rfl, fun r hr => ?_, fun r hr => ?_⟩
        · by_cases e2 : r = k
          · subst e2; exact Int.le_refl _
          · have := a3 r (by omega); simp only; omega
        · have := a3 r (by simpa using hr); simp only; omega
      · have h1 : bm d (k + 1) = bm d k := if_neg (by omega)
        rw [h1]
        refine ⟨by omega, a2, fun r hr => ?_, a4⟩
        by_cases e2 : r = k
        · subst e2; omega
        · exact a3 r (by omega)
theorem bm_bd {d : Nat → Int} (h0 : ∀ r, 0 ≤ d r) {L : Int} (hL : ∀ r, d r ≤ L) (hL0 : 0 ≤ L) (k : Nat) : -1 ≤ (bm d k).2 ∧ (bm d k).2 ≤ L ∧ (bm d k).1 ≤ k := by
  induction k with
  | zero => simp [bm]; omega
  | succ k ih =>
    simp only [bm]
    split
    · have := h0 k; have := hL k; simp only; omega
    · omega

/-- the tables of faults that are kept -/
theorem kept_pick (AG : Nat → Bool) (f : Nat → Int) (p : Int → Bool) (h : ∀ i, p (f i) = !AG i) (m : Nat) : keptTo p f m = (pickL AG m).map fun i => f i.toNat := by
  induction m with
  | zero => rfl
  | succ m ih =>
    cases e : AG m
    · rw [keptTo_skip (by rw [h, e]; rfl), pick_miss e, ih]
    · rw [keptTo_more (by rw [h, e]; rfl), pick_hit e, ih, List.map_append]; simp
theorem pick_in {P : Nat → Bool} {k q : Nat} (h : q < (pickL P k).length) : ∃ i : Nat, (pickL P k).getD q 0 = (i : Int) ∧ i < k ∧ P i = true := by
  unfold pickL at *
  rw [List.length_map] at h
  refine ⟨(List.filter P (List.range k))[q], ?_, ?_⟩
  · rw [List.getD_eq_getElem?_getD, List.getElem?_map, List.getElem?_eq_getElem h]; rfl
  · have := List.mem_filter.1 (List.getElem_mem h)
    exact ⟨List.mem_range.1 this.1, this.2⟩
theorem map_pick_getD {P : Nat → Bool} {f : Nat → Int} {k q : Nat} (h : q < (pickL P k).length) : ((pickL P k).map fun i => f i.toNat).getD q 0 = f ((pickL P k).getD q 0).toNat := by
  rw [List.getD_eq_getElem?_getD, List.getElem?_map, List.getD_eq_getElem?_getD, List.getElem?_eq_getElem h]; rfl

/-- the values of the table of the q-th fault -/
noncomputable def tvF (xs : List Int) (yss ss : List (List Int)) (q : Nat) : Int := tabI xs yss ((pickL (agI xs yss ss) yss.length).getD q 0).toNat
noncomputable def nF (xs : List Int) (yss ss : List (List Int)) : Nat := (pickL (agI xs yss ss) yss.length).length
noncomputable def bestD (xs : List Int) (yss ss : List (List Int)) (r : Nat) : Int := difT (tvF xs yss ss) (nF xs yss ss) (r : Int)
noncomputable def resBestTest_0 (p : Int) (xs : List Int) (yss ss : List (List Int)) : Int := if sgC p xs yss ss = 0 then ((bm (bestD xs yss ss) (2 ^ xs.length)).1 : Int) else 0
def resBestTest_1 (p : Int) (xs : List Int) (yss ss : List (List Int)) : Int := sgC p xs yss ss
theorem tv_step {xs : List Int} {yss ss : List (List Int)} {q r : Nat} (hr : r < 2 ^ xs.length) {i : Nat} (hi : (pickL (agI xs yss ss) yss.length).getD q 0 = (i : Int)) (hm : i < yss.length) :
    digZ (tvF xs yss ss q) (r : Int) = if litB xs (yss.eraseIdx i) (r : Int) = true then 1 else 0 := by
  unfold tvF
  rw [hi, Int.toNat_natCast, ← tabI_erase xs hm, tab_digit _ _ _ (by omega) (by unfold rcZ; rw [Int.toNat_natCast]; omega), Int.toNat_natCast]
  rfl
theorem dif_abs (tv : Nat → Int) (l : Nat) (row : Int) : max (2 * cntT tv row l - (l : Int)) (-(2 * cntT tv row l - (l : Int))) = difT tv l row := by
  unfold difT
  congr 1
  omega
theorem dif_zeros (tv : Nat → Int) (l : Nat) (row : Int) : max (cntT tv row l - ((l : Int) - cntT tv row l)) ((l : Int) - cntT tv row l - cntT tv row l) = difT tv l row := by
  unfold difT
  congr 1 <;> omega

end Go.Proofs.Ytkdidplpnhokiaa
