/- The contacts of a formula, and their inputs (plain mathematics). -/
import Derived.Test.YtohmhiodmaahfaaDelM
import Derived.Test.YtohmhiodmaahfaaFvL
namespace Go.Proofs.Ytohmhiodmaahfaa
open Go.RowKit
set_option linter.unusedVariables false

def noLet (c : Int) : Bool := !letC c
/-- the contacts among the first k signs -/
def lets (s : ByteArray) (k : Nat) : List Int := keptTo noLet (byteAt s) k
theorem lets_yes {s : ByteArray} {k : Nat} (h : letC (byteAt s k) = true) : lets s (k + 1) = lets s k ++ [byteAt s k] := keptTo_more (by unfold noLet; rw [h]; rfl)
theorem lets_no {s : ByteArray} {k : Nat} (h : letC (byteAt s k) = false) : lets s (k + 1) = lets s k := keptTo_skip (by unfold noLet; rw [h]; rfl)
theorem lets_byte (s : ByteArray) (k : Nat) : ∀ x ∈ lets s k, letC x = true := by
  induction k with
  | zero => intro x hx; simp [lets, keptTo] at hx
  | succ k ih =>
    intro x hx
    cases h : letC (byteAt s k)
    · rw [lets_no h] at hx; exact ih x hx
    · rw [lets_yes h] at hx
      rcases List.mem_append.1 hx with hx | hx
      · exact ih x hx
      · have e : x = byteAt s k := by simpa using hx
        rw [e]; exact h
theorem letC_bd {x : Int} (h : letC x = true) : 0 ≤ x ∧ x < 256 ∧ 0 ≤ inpC x ∧ inpC x < 5 := by
  have h2 := of_decide_eq_true (show decide ((97 ≤ x ∧ x ≤ 101) ∨ (65 ≤ x ∧ x ≤ 69)) = true from h)
  have := (letC_iff (c := x) (by omega)).1 h
  omega
/-- one more than the greatest input of the contacts among the first k signs, at least 1 -/
def inTo (s : ByteArray) : Nat → Int
  | 0 => 1
  | k + 1 => if letC (byteAt s k) then max (inTo s k) (inpC (byteAt s k) + 1) else inTo s k
theorem inTo_bd (s : ByteArray) (k : Nat) : 1 ≤ inTo s k ∧ inTo s k ≤ 5 := by
  induction k with
  | zero => simp [inTo]
  | succ k ih =>
    simp only [inTo]; split
    · rename_i h
      have := letC_bd h
      omega
    · exact ih
theorem inTo_le (s : ByteArray) (n : Int) (k : Nat) : inTo s k ≤ n ↔ 1 ≤ n ∧ ∀ x ∈ lets s k, ¬ n ≤ inpC x := by
  induction k with
  | zero => simp [inTo, lets, keptTo]
  | succ k ih =>
    cases h : letC (byteAt s k)
    · rw [lets_no h]; simp only [inTo]; rw [if_neg (by rw [h]; simp)]; exact ih
    · rw [lets_yes h]; simp only [inTo]; rw [if_pos h]
      constructor
      · intro hm
        have h2 := ih.1 (by omega)
        refine ⟨h2.1, fun x hx => ?_⟩
        rcases List.mem_append.1 hx with hx | hx
        · exact h2.2 x hx
        · have e : x = byteAt s k := by simpa using hx
          rw [e]; omega
      · rintro ⟨h1, h2⟩
        have := ih.2 ⟨h1, fun x hx => h2 x (List.mem_append_left _ hx)⟩
        have := h2 (byteAt s k) (by simp)
        omega
/-- has a formula a contact with an input of n or more -/
def farIn (n : Int) (c : Int) : Bool := decide (n ≤ inpC c)
theorem far_any_iff (s : ByteArray) (n : Int) : (∃ i, i < (lets s s.size).length ∧ farIn n ((lets s s.size).getD i 0) = true) ↔ ∃ x ∈ lets s s.size, n ≤ inpC x := by
  constructor
  · rintro ⟨i, hi, h⟩
    refine ⟨_, ?_, of_decide_eq_true h⟩
    rw [List.getD_eq_getElem?_getD, List.getElem?_eq_getElem hi]; exact List.getElem_mem hi
  · rintro ⟨x, hx, h⟩
    obtain ⟨i, hi, e⟩ := List.getElem_of_mem hx
    refine ⟨i, hi, decide_eq_true ?_⟩
    rw [List.getD_eq_getElem?_getD, List.getElem?_eq_getElem hi, e]; exact h
theorem inputs_ok (s : ByteArray) (n : Int) : inTo s s.size ≤ n ↔ 1 ≤ n ∧ ¬ ∃ i, i < (lets s s.size).length ∧ farIn n ((lets s s.size).getD i 0) = true := by
  rw [inTo_le, far_any_iff]
  constructor
  · rintro ⟨h1, h2⟩; exact ⟨h1, fun ⟨x, hx, h⟩ => h2 x hx h⟩
  · rintro ⟨h1, h2⟩; exact ⟨h1, fun x hx h => h2 ⟨x, hx, h⟩⟩

end Go.Proofs.Ytohmhiodmaahfaa
