/- Inputs that are alike, and symmetric tables (plain mathematics). -/
import Derived.Test.YtapcblibokkhcaaDoorSymM
namespace Go.Proofs.YtapcblibokkhcaaDoor
open Go.RowKit
set_option linter.unusedVariables false

/-- the row k with the digit c at the place i -/
def setB (i c k : Nat) : Nat := if dig k i = c then k else k ^^^ 2 ^ i
/-- the row k with its digits at the places i and j exchanged -/
def swp (i j k : Nat) : Nat := if dig k i = dig k j then k else k ^^^ (2 ^ i ||| 2 ^ j)
def swpPath : List (List Nat) := [[], [], [1], [], [2], [1, 2], [2], [], [3], [1, 3], [3], [2, 3], [2, 1, 3], [1, 3], [3], [], [4], [1, 4], [4], [2, 4], [2, 1, 4], [1, 4], [4], [3, 4], [3, 1, 4], [1, 3, 2, 4], [3, 2, 4], [2, 4], [3, 1, 4], [1, 4], [4], []]
theorem swp_cases : ∀ (i j : Fin 5) (k : Fin 32), i ≠ j →
    (swp i k.val k.val = swp i k.val k.val) ∧
    ((dig k.val i.val = dig k.val j.val ∧ swp i.val j.val k.val = k.val) ∨
     (k.val = setB i.val 1 (setB j.val 0 k.val) ∧ swp i.val j.val k.val = setB i.val 0 (setB j.val 1 k.val)) ∨
     (k.val = setB i.val 0 (setB j.val 1 k.val) ∧ swp i.val j.val k.val = setB i.val 1 (setB j.val 0 k.val))) := by decide +kernel
theorem swp_set : ∀ (i j : Fin 5) (k : Fin 32), i ≠ j → swp i.val j.val (setB i.val 1 (setB j.val 0 k.val)) = setB i.val 0 (setB j.val 1 k.val) := by decide +kernel
theorem swp_lt : ∀ (n : Fin 6) (i j : Fin 5) (k : Fin 32), i.val < n.val → j.val < n.val → k.val < 2 ^ n.val → swp i.val j.val k.val < 2 ^ n.val ∧ setB i.val 1 (setB j.val 0 k.val) < 2 ^ n.val ∧ setB i.val 0 (setB j.val 1 k.val) < 2 ^ n.val := by decide +kernel
theorem swp_ones : ∀ (i j : Fin 5) (k : Fin 32), onesN (swp i.val j.val k.val) = onesN k.val := by decide +kernel
theorem swp_comm : ∀ (i j : Fin 5) (k : Fin 32), swp i.val j.val k.val = swp j.val i.val k.val := by decide +kernel
theorem swp_three : ∀ (i j k : Fin 5) (r : Fin 32), i ≠ j → i ≠ k → j ≠ k → swp j.val k.val r.val = swp i.val j.val (swp i.val k.val (swp i.val j.val r.val)) := by decide +kernel
theorem swp_path : ∀ (k : Fin 32), (swpPath.getD k.val []).foldl (fun r i => swp 0 i r) k.val = 2 ^ onesN k.val - 1 ∧ ∀ i ∈ swpPath.getD k.val [], 1 ≤ i ∧ i < 5 ∧ 2 ^ i ≤ k.val := by decide +kernel

/-- does exchanging the inputs i and j leave the table as it is -/
def AlS (v N i j : Nat) : Prop := ∀ k, k < 2 ^ N → dig v (swp i j k) = dig v k
instance (v N i j : Nat) : Decidable (AlS v N i j) := inferInstanceAs (Decidable (∀ k, k < 2 ^ N → _))
/-- the program's test -/
def AlP (v N i j : Nat) : Prop := ∀ k, k < 2 ^ N → dig v (setB i 1 (setB j 0 k)) = dig v (setB i 0 (setB j 1 k))
theorem pow5 {N : Nat} (h : N ≤ 5) : 2 ^ N ≤ 32 := Nat.pow_le_pow_right (by decide) h
theorem AlP_iff {v N i j : Nat} (hN : N ≤ 5) (hi : i < N) (hj : j < N) (hij : i ≠ j) : AlP v N i j ↔ AlS v N i j := by
  have h32 := pow5 hN
  have hF : (⟨i, by omega⟩ : Fin 5) ≠ ⟨j, by omega⟩ := fun h => hij (by simpa using h)
  constructor
  · intro h k hk
    rcases (swp_cases ⟨i, by omega⟩ ⟨j, by omega⟩ ⟨k, by omega⟩ hF).2 with ⟨_, e⟩ | ⟨e1, e2⟩ | ⟨e1, e2⟩
    · rw [show swp i j k = k from e]
    · rw [show swp i j k = setB i 0 (setB j 1 k) from e2, ← h k hk, ← (show k = setB i 1 (setB j 0 k) from e1)]
    · rw [show swp i j k = setB i 1 (setB j 0 k) from e2, h k hk, ← (show k = setB i 0 (setB j 1 k) from e1)]
  · intro h k hk
    have e : swp i j (setB i 1 (setB j 0 k)) = setB i 0 (setB j 1 k) := swp_set ⟨i, by omega⟩ ⟨j, by omega⟩ ⟨k, by omega⟩ hF
    have hb := swp_lt ⟨N, by omega⟩ ⟨i, by omega⟩ ⟨j, by omega⟩ ⟨k, by omega⟩ hi hj hk
    have hb2 : setB i 1 (setB j 0 k) < 2 ^ N := hb.2.1
    rw [← h _ hb2, e]
theorem AlS_symm {v N i j : Nat} (hN : N ≤ 5) (hi : i < N) (hj : j < N) (h : AlS v N i j) : AlS v N j i := by
  have h32 := pow5 hN
  intro k hk
  have e : swp i j k = swp j i k := swp_comm ⟨i, by omega⟩ ⟨j, by omega⟩ ⟨k, by omega⟩
  rw [← e]; exact h k hk
theorem AlS_self (v N i : Nat) : AlS v N i i := by
  intro k _
  unfold swp; rw [if_pos rfl]
theorem AlS_trans {v N i j k : Nat} (hN : N ≤ 5) (hi : i < N) (hj : j < N) (hk : k < N) (h1 : AlS v N i j) (h2 : AlS v N i k) : AlS v N j k := by
  have h32 := pow5 hN
  by_cases e1 : i = j
  · subst e1; exact h2
  · by_cases e2 : i = k
    · subst e2; exact AlS_symm hN hi hj h1
    · by_cases e3 : j = k
      · subst e3; exact AlS_self _ _ _
      · intro r hr
        have e : swp j k r = swp i j (swp i k (swp i j r)) := swp_three ⟨i, by omega⟩ ⟨j, by omega⟩ ⟨k, by omega⟩ ⟨r, by omega⟩ (fun h => e1 (by simpa using h)) (fun h => e2 (by simpa using h)) (fun h => e3 (by simpa using h))
        have b1 : swp i j r < 2 ^ N := (swp_lt ⟨N, by omega⟩ ⟨i, by omega⟩ ⟨j, by omega⟩ ⟨r, by omega⟩ hi hj hr).1
        have b2 : swp i k (swp i j r) < 2 ^ N := (swp_lt ⟨N, by omega⟩ ⟨i, by omega⟩ ⟨k, by omega⟩ ⟨swp i j r, by omega⟩ hi hk b1).1
        rw [e, h1 _ b2, h2 _ b1, h1 _ hr]

/-- is a table symmetric: the values of rows with as many ones are the same -/
def SymP (v N : Nat) : Prop := ∀ k, k < 2 ^ N → dig v k = dig v (2 ^ onesN k - 1)
instance (v N : Nat) : Decidable (SymP v N) := inferInstanceAs (Decidable (∀ k, k < 2 ^ N → _))
theorem ones_first_lt {N k : Nat} (hN : N ≤ 5) (hk : k < 2 ^ N) : 2 ^ onesN k - 1 < 2 ^ N := by
  have := onesN_bd hN hk
  have : 2 ^ onesN k ≤ 2 ^ N := Nat.pow_le_pow_right (by decide) this
  have : 0 < 2 ^ onesN k := Nat.two_pow_pos _
  omega
theorem SymP_iff {v N : Nat} (hN : N ≤ 5) (h1 : 1 ≤ N) : SymP v N ↔ ∀ i, 1 ≤ i → i < N → AlS v N 0 i := by
  have h32 := pow5 hN
  constructor
  · intro h i hi1 hi k hk
    have hb := (swp_lt ⟨N, by omega⟩ ⟨0, by omega⟩ ⟨i, by omega⟩ ⟨k, by omega⟩ (show 0 < N by omega) hi hk).1
    have ho : onesN (swp 0 i k) = onesN k := swp_ones ⟨0, by omega⟩ ⟨i, by omega⟩ ⟨k, by omega⟩
    rw [h _ hb, ho, ← h k hk]
  · intro h k hk
    have hp := swp_path ⟨k, by omega⟩
    have key : ∀ (l : List Nat) (r : Nat), r < 2 ^ N → (∀ i ∈ l, 1 ≤ i ∧ i < N) → l.foldl (fun r i => swp 0 i r) r < 2 ^ N ∧ dig v (l.foldl (fun r i => swp 0 i r) r) = dig v r := by
      intro l
      induction l with
      | nil => intro r hr _; exact ⟨hr, rfl⟩
      | cons i l ih =>
        intro r hr hl
        have hi := hl i (by simp)
        have hb : swp 0 i r < 2 ^ N := (swp_lt ⟨N, by omega⟩ ⟨0, by omega⟩ ⟨i, by omega⟩ ⟨r, by omega⟩ (show 0 < N by omega) hi.2 hr).1
        have := ih (swp 0 i r) hb fun a ha => hl a (by simp [ha])
        simp only [List.foldl_cons]
        exact ⟨this.1, by rw [this.2]; exact h i hi.1 hi.2 r hr⟩
    have hl : ∀ i ∈ swpPath.getD k [], 1 ≤ i ∧ i < N := fun i hi => by
      have := hp.2 i hi
      refine ⟨this.1, ?_⟩
      rcases Nat.lt_or_ge i N with h' | h'
      · exact h'
      · have h2 : 2 ^ N ≤ 2 ^ i := Nat.pow_le_pow_right (by decide) h'
        have h3 : 2 ^ i ≤ k := this.2.2
        omega
    have := (key (swpPath.getD k []) k hk hl).2
    rw [← this]
    exact congrArg (dig v) hp.1

end Go.Proofs.YtapcblibokkhcaaDoor
