/- Wires that are needed: mathematics. -/
import Derived.Test.YtkdidplpnhokiaaFt
import Derived.Test.YtkdidplpnhokiaaLi
namespace Go.Proofs.Ytkdidplpnhokiaa
open Go.RowKit
set_option linter.unusedVariables false

/-- the numbers below k that P holds of, ascending -/
def pickL (P : Nat → Bool) (k : Nat) : List Int := List.map (fun i : Nat => (i : Int)) (List.filter P (List.range k))
theorem pick_hit {P : Nat → Bool} {k : Nat} (h : P k = true) : pickL P (k + 1) = pickL P k ++ [(k : Int)] := by
  unfold pickL; rw [List.range_succ, List.filter_append]; simp [h]
theorem pick_miss {P : Nat → Bool} {k : Nat} (h : P k = false) : pickL P (k + 1) = pickL P k := by
  unfold pickL; rw [List.range_succ, List.filter_append]; simp [h]
theorem pick_len (P : Nat → Bool) (k : Nat) : (pickL P k).length ≤ k := by
  unfold pickL
  rw [List.length_map]
  exact Nat.le_trans (List.length_filter_le _ _) (by simp)
theorem pick_zero (P : Nat → Bool) : pickL P 0 = [] := rfl
theorem pick_congr {P Q : Nat → Bool} {k : Nat} (h : ∀ i, i < k → P i = Q i) : pickL P k = pickL Q k := by
  unfold pickL
  congr 1
  exact List.filter_congr fun i hi => h i (List.mem_range.1 hi)

theorem getD_erase {yss : List (List Int)} (i j : Nat) : (yss.eraseIdx i).getD j [] = if j < i then yss.getD j [] else yss.getD (j + 1) [] := by
  rw [List.getD_eq_getElem?_getD, List.getElem?_eraseIdx]
  split <;> rw [List.getD_eq_getElem?_getD]
theorem len_erase {yss : List (List Int)} {i : Nat} (h : i < yss.length) : (yss.eraseIdx i).length = yss.length - 1 := List.length_eraseIdx_of_lt h
theorem wire_erase (xs : List Int) {yss : List (List Int)} {i : Nat} (hi : i < yss.length) (pos : Int) (a b : Nat) :
    wirE xs yss ((2 ^ i : Nat)).testBit pos a b ↔ wirE xs (yss.eraseIdx i) (fun _ => false) pos a b := by
  unfold wirE
  refine or_congr ?_ Iff.rfl
  rw [len_erase hi]
  constructor
  · rintro ⟨j, hj, hb, e1, e2⟩
    rw [Nat.testBit_two_pow, decide_eq_false_iff_not] at hb
    by_cases h : j < i
    · exact ⟨j, by omega, rfl, by rw [getD_erase, if_pos h]; exact e1, by rw [getD_erase, if_pos h]; exact e2⟩
    · have e : j - 1 + 1 = j := by omega
      exact ⟨j - 1, by omega, rfl, by rw [getD_erase, if_neg (by omega), e]; exact e1, by rw [getD_erase, if_neg (by omega), e]; exact e2⟩
  · rintro ⟨j, hj, _, e1, e2⟩
    by_cases h : j < i
    · rw [getD_erase, if_pos h] at e1 e2
      exact ⟨j, by omega, by rw [Nat.testBit_two_pow, decide_eq_false_iff_not]; omega, e1, e2⟩
    · rw [getD_erase, if_neg h] at e1 e2
      exact ⟨j + 1, by omega, by rw [Nat.testBit_two_pow, decide_eq_false_iff_not]; omega, e1, e2⟩
theorem lit_erase (xs : List Int) {yss : List (List Int)} {i : Nat} (hi : i < yss.length) (r : Nat) : litR xs yss ((2 ^ i : Nat)).testBit r = litR xs (yss.eraseIdx i) (fun _ => false) r :=
  bP_congr (Live.congr (wire_erase xs hi (r : Int)) 0 1)
theorem tabI_erase (xs : List Int) {yss : List (List Int)} {i : Nat} (hi : i < yss.length) : tabZ xs (yss.eraseIdx i) (fun _ => false) = tabI xs yss i := by
  unfold tabI tabZ tabN
  rw [show litR xs (yss.eraseIdx i) (fun _ => false) = litR xs yss ((2 ^ i : Nat)).testBit from funext fun r => (lit_erase xs hi r).symm]
theorem WirW.erase {p : Int} {xs : List Int} {yss : List (List Int)} (h : WirW p xs yss) {i : Nat} (hi : i < yss.length) : WirW p xs (yss.eraseIdx i) := by
  refine ⟨h.1, h.2.1, by rw [len_erase hi]; have := h.2.2.1; omega, fun j hj => ?_⟩
  rw [len_erase hi] at hj
  rw [getD_erase]
  split
  · exact h.2.2.2 j (by omega)
  · exact h.2.2.2 (j + 1) (by omega)

/-- is the wire i needed -/
noncomputable def needB (xs : List Int) (yss : List (List Int)) (i : Nat) : Bool := decide (tabI xs yss i ≠ tabZ xs yss (fun _ => false))
noncomputable def resNeededWires_0 (p : Int) (xs : List Int) (yss : List (List Int)) : List Int := if wirB p xs yss = true then pickL (needB xs yss) yss.length else []
def resNeededWires_1 (p : Int) (xs : List Int) (yss : List (List Int)) : Int := if wirB p xs yss = true then 0 else 1
theorem lenNeededWires_0 (p : Int) (xs : List Int) (yss : List (List Int)) : (resNeededWires_0 p xs yss).length ≤ 100000 := by
  unfold resNeededWires_0
  split
  · rename_i h
    have h1 := pick_len (needB xs yss) yss.length
    have h2 := (wirB_out h).2.2.1
    omega
  · simp

end Go.Proofs.Ytkdidplpnhokiaa
