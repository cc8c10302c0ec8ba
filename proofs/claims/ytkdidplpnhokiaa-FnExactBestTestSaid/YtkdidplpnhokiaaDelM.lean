/- The letters of a text (plain mathematics). -/
import Derived.Test.YtkdidplpnhokiaaSwM
namespace Go.Proofs.Ytkdidplpnhokiaa
open Go.RowKit
set_option linter.unusedVariables false

/-- those of the first k bytes f 0, f 1 .. for which p does not hold -/
def keptTo (p : Int → Bool) (f : Nat → Int) : Nat → List Int
  | 0 => []
  | k + 1 => if p (f k) then keptTo p f k else keptTo p f k ++ [f k]
theorem keptTo_len (p : Int → Bool) (f : Nat → Int) (k : Nat) : (keptTo p f k).length ≤ k := by
  induction k with
  | zero => simp [keptTo]
  | succ k ih =>
    simp only [keptTo]; split
    · omega
    · simp; exact ih
theorem keptTo_all {p : Int → Bool} {f : Nat → Int} {k : Nat} (h : ∀ i, i < k → p (f i) = false) : keptTo p f k = (List.range k).map f := by
  induction k with
  | zero => rfl
  | succ k ih =>
    simp only [keptTo]
    rw [h k (by omega), ih fun i hi => h i (by omega), List.range_succ]
    simp
theorem keptTo_skip {p : Int → Bool} {f : Nat → Int} {k : Nat} (h : p (f k) = true) : keptTo p f (k + 1) = keptTo p f k := by simp only [keptTo]; rw [if_pos h]
theorem keptTo_more {p : Int → Bool} {f : Nat → Int} {k : Nat} (h : p (f k) = false) : keptTo p f (k + 1) = keptTo p f k ++ [f k] := by simp only [keptTo]; rw [if_neg (by rw [h]; simp)]
theorem getD_snocI_lt {l : List Int} {x : Int} {i : Nat} (h : i < l.length) : (l ++ [x]).getD i 0 = l.getD i 0 := by
  simp only [List.getD_eq_getElem?_getD]; rw [List.getElem?_append_left h]
theorem getD_snocI_eq {l : List Int} {x : Int} : (l ++ [x]).getD l.length 0 = x := by
  simp [List.getD_eq_getElem?_getD]
/-- the bytes in memory when the first k are looked at: those kept, then what has stood there -/
def keepB (p : Int → Bool) (f : Nat → Int) (k j : Nat) : Int := if j < (keptTo p f k).length then (keptTo p f k).getD j 0 else f j
theorem keepB_skip {p : Int → Bool} {f : Nat → Int} {k : Nat} (h : p (f k) = true) (j : Nat) : keepB p f (k + 1) j = keepB p f k j := by unfold keepB; rw [keptTo_skip h]
theorem keepB_new {p : Int → Bool} {f : Nat → Int} {k : Nat} (h : p (f k) = false) : keepB p f (k + 1) (keptTo p f k).length = f k := by
  unfold keepB; rw [keptTo_more h, if_pos (by simp), getD_snocI_eq]
theorem keepB_old {p : Int → Bool} {f : Nat → Int} {k j : Nat} (h : p (f k) = false) (hj : j ≠ (keptTo p f k).length) : keepB p f (k + 1) j = keepB p f k j := by
  unfold keepB; rw [keptTo_more h]
  by_cases e : j < (keptTo p f k).length
  · rw [if_pos (by simp; omega), if_pos e, getD_snocI_lt e]
  · rw [if_neg (by simp; omega), if_neg e]
theorem keepB_at (p : Int → Bool) (f : Nat → Int) (k : Nat) : keepB p f k k = f k := by
  unfold keepB; rw [if_neg (by have := keptTo_len p f k; omega)]
theorem keepB_first {p : Int → Bool} {f : Nat → Int} {k : Nat} (h : ∀ i, i < k → p (f i) = false) (j : Nat) : keepB p f k j = f j := by
  unfold keepB
  rw [keptTo_all h]
  split
  · rename_i hj
    simp only [List.length_map, List.length_range] at hj
    rw [List.getD_eq_getElem?_getD, List.getElem?_map, List.getElem?_range hj]; rfl
  · rfl
theorem keepB_done (p : Int → Bool) (f : Nat → Int) (k j : Nat) (h : j < (keptTo p f k).length) : keepB p f k j = (keptTo p f k).getD j 0 := by unfold keepB; rw [if_pos h]

end Go.Proofs.Ytkdidplpnhokiaa
