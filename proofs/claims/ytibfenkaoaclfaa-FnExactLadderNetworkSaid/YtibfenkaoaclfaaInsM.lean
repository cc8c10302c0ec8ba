/- Lists of contacts kept in order by insertion: plain mathematics. -/
import Derived.Test.YtibfenkaoaclfaaNetM
namespace Go.Proofs.Ytibfenkaoaclfaa
open Go.RowKit
set_option linter.unusedVariables false

/-- where an element goes, looked for from the place k downwards -/
def posR (P : List (List Int)) (x : List Int) : Nat → Nat
  | 0 => 0
  | k + 1 => if cmpL x (P.getD k []) < 0 then posR P x k else k + 1
theorem posR_le (P : List (List Int)) (x : List Int) (k : Nat) : posR P x k ≤ k := by
  induction k with
  | zero => exact Nat.le_refl _
  | succ k ih => unfold posR; split <;> omega
/-- an element at the place j of a list, others behind -/
def midL (P : List (List Int)) (x : List Int) (R : List (List Int)) (j : Nat) : List (List Int) := P.take j ++ x :: (P.drop j ++ R)
theorem midL_len (P : List (List Int)) (x : List Int) (R : List (List Int)) (j : Nat) : (midL P x R j).length = P.length + 1 + R.length := by
  have := List.take_append_drop j P
  have h : (P.take j).length + (P.drop j).length = P.length := by rw [← List.length_append, this]
  simp only [midL, List.length_append, List.length_cons]
  omega
theorem midL_at {P : List (List Int)} {x : List Int} {R : List (List Int)} {j : Nat} (hj : j ≤ P.length) : (midL P x R j).getD j [] = x := by
  have h : (P.take j).length = j := by simp; omega
  simp only [midL, List.getD_eq_getElem?_getD]
  rw [List.getElem?_append_right (by omega), h, Nat.sub_self]; rfl
theorem midL_pred {P : List (List Int)} {x : List Int} {R : List (List Int)} {j : Nat} (hj : j < P.length) : (midL P x R (j + 1)).getD j [] = P.getD j [] := by
  have h : (P.take (j + 1)).length = j + 1 := by simp; omega
  simp only [midL, List.getD_eq_getElem?_getD]
  rw [List.getElem?_append_left (by omega), List.getElem?_take, if_pos (by omega)]
theorem take_succ_getD {P : List (List Int)} {j : Nat} (hj : j < P.length) : P.take (j + 1) = P.take j ++ [P.getD j []] := by
  rw [List.take_succ_eq_append_getElem hj]; simp [List.getD_eq_getElem?_getD, hj]
theorem drop_getD {P : List (List Int)} {j : Nat} (hj : j < P.length) : P.drop j = P.getD j [] :: P.drop (j + 1) := by
  rw [List.drop_eq_getElem_cons hj]; simp [List.getD_eq_getElem?_getD, hj]
/-- the element goes one place down -/
theorem midL_swap {P : List (List Int)} {x : List Int} {R : List (List Int)} {j : Nat} (hj : j < P.length) :
    ((midL P x R (j + 1)).set (j + 1) (P.getD j [])).set j x = midL P x R j := by
  have h : (P.take j).length = j := by simp; omega
  unfold midL
  rw [take_succ_getD hj, drop_getD hj]
  generalize P.getD j [] = y
  generalize P.drop (j + 1) = D
  generalize hT : P.take j = T at *
  rw [List.append_assoc, List.set_append_right _ _ (by omega), h, show j + 1 - j = 1 by omega]
  rw [List.set_append_right _ _ (by omega), h, Nat.sub_self]
  rfl
theorem midL_last (P : List (List Int)) (x : List Int) (R : List (List Int)) : midL P x R P.length = P ++ x :: R := by
  unfold midL; rw [List.take_length, List.drop_length]; rfl
theorem midL_rest (P : List (List Int)) (x : List Int) (R : List (List Int)) (j : Nat) : midL P x R j = midL P x [] j ++ R := by
  unfold midL; simp
/-- an element put in order behind those that are not greater -/
def insR (P : List (List Int)) (x : List Int) : List (List Int) := midL P x [] (posR P x P.length)
theorem insR_len (P : List (List Int)) (x : List Int) : (insR P x).length = P.length + 1 := by unfold insR; rw [midL_len]; simp
theorem insR_mem {P : List (List Int)} {x c : List Int} (h : c ∈ insR P x) : c ∈ P ∨ c = x := by
  unfold insR midL at h
  simp only [List.append_nil, List.mem_append, List.mem_cons] at h
  rcases h with h | h | h
  · exact .inl (List.mem_of_mem_take h)
  · exact .inr h
  · exact .inl (List.mem_of_mem_drop h)
/-- the first k elements in order -/
def sortTo (L : List (List Int)) : Nat → List (List Int)
  | 0 => []
  | k + 1 => if k < L.length then insR (sortTo L k) (L.getD k []) else sortTo L k
theorem sortTo_len {L : List (List Int)} {k : Nat} (hk : k ≤ L.length) : (sortTo L k).length = k := by
  induction k with
  | zero => rfl
  | succ k ih => unfold sortTo; rw [if_pos (by omega), insR_len, ih (by omega)]
theorem sortTo_mem {L : List (List Int)} {k : Nat} {c : List Int} (h : c ∈ sortTo L k) : c ∈ L := by
  induction k with
  | zero => simp [sortTo] at h
  | succ k ih =>
    unfold sortTo at h
    split at h
    · rename_i hk
      rcases insR_mem h with h | h
      · exact ih h
      · rw [h]; simp [List.getD_eq_getElem?_getD, hk]
    · exact ih h
theorem sortTo_step {L : List (List Int)} {k : Nat} (hk : k < L.length) : sortTo L (k + 1) = insR (sortTo L k) (L.getD k []) := by
  show (if k < L.length then _ else _) = _
  rw [if_pos hk]
theorem sortTo_more {L : List (List Int)} {k : Nat} (hk : L.length ≤ k) : sortTo L k = sortTo L L.length := by
  induction k with
  | zero => have : L.length = 0 := by omega
            rw [this]
  | succ k ih =>
    rcases Nat.lt_or_ge k L.length with h | h
    · have : L.length = k + 1 := by omega
      rw [this]
    · show (if k < L.length then insR (sortTo L k) (L.getD k []) else sortTo L k) = _
      rw [if_neg (by omega), ih h]
/-- a list in order -/
def sortL (L : List (List Int)) : List (List Int) := sortTo L L.length
theorem sortL_len (L : List (List Int)) : (sortL L).length = L.length := sortTo_len (Nat.le_refl _)
theorem sortL_mem {L : List (List Int)} {c : List Int} (h : c ∈ sortL L) : c ∈ L := sortTo_mem h
/-- what lies in the slice when the first k elements are in order -/
def sortSt (L : List (List Int)) (k : Nat) : List (List Int) := sortTo L k ++ L.drop k
theorem sortSt_first (L : List (List Int)) : sortSt L 1 = L := by
  cases L with
  | nil => rfl
  | cons x L => simp [sortSt, sortTo, insR, midL, posR]
theorem sortSt_last {L : List (List Int)} {k : Nat} (hk : L.length ≤ k) : sortSt L k = sortL L := by
  unfold sortSt sortL
  rw [List.drop_of_length_le hk, List.append_nil, sortTo_more hk]
theorem sortSt_len {L : List (List Int)} {k : Nat} : (sortSt L k).length = L.length := by
  unfold sortSt
  rcases Nat.lt_or_ge L.length k with h | h
  · rw [sortTo_more (by omega), List.length_append, sortTo_len (Nat.le_refl _), List.length_drop]; omega
  · rw [List.length_append, sortTo_len h, List.length_drop]; omega
theorem sortSt_mid {L : List (List Int)} {k : Nat} (hk : k < L.length) : sortSt L k = midL (sortTo L k) (L.getD k []) (L.drop (k + 1)) k := by
  have h := midL_last (sortTo L k) (L.getD k []) (L.drop (k + 1))
  rw [sortTo_len (by omega)] at h
  rw [h]; unfold sortSt; rw [drop_getD hk]
theorem sortSt_done {L : List (List Int)} {k : Nat} (hk : k < L.length) : midL (sortTo L k) (L.getD k []) (L.drop (k + 1)) (posR (sortTo L k) (L.getD k []) k) = sortSt L (k + 1) := by
  unfold sortSt
  rw [midL_rest, sortTo_step hk]
  unfold insR
  rw [sortTo_len (by omega)]
theorem midL_mem {L : List (List Int)} {k j : Nat} {c : List Int} (hk : k < L.length) (h : c ∈ midL (sortTo L k) (L.getD k []) (L.drop (k + 1)) j) : c ∈ L := by
  unfold midL at h
  simp only [List.mem_append, List.mem_cons] at h
  rcases h with h | h | h | h
  · exact sortTo_mem (List.mem_of_mem_take h)
  · rw [h]; simp [List.getD_eq_getElem?_getD, hk]
  · exact sortTo_mem (List.mem_of_mem_drop h)
  · exact List.mem_of_mem_drop h

end Go.Proofs.Ytibfenkaoaclfaa
