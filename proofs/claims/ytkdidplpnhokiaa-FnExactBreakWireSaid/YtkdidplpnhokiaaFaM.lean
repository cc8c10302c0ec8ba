/- Sights, and faults that agree with them: mathematics. -/
import Derived.Test.YtkdidplpnhokiaaNwM
namespace Go.Proofs.Ytkdidplpnhokiaa
open Go.RowKit
set_option linter.unusedVariables false

/-- a sight of a wiring whose switches have R positions together -/
def SgOk (R : Int) (s : List Int) : Prop := s.length = 2 ∧ (0 ≤ s.getD 0 0 ∧ s.getD 0 0 < R) ∧ (0 ≤ s.getD 1 0 ∧ s.getD 1 0 < 2)
instance (R : Int) (s : List Int) : Decidable (SgOk R s) := by unfold SgOk; infer_instance
def SgsOk (R : Int) (ss : List (List Int)) : Prop := ss.length ≤ 32 ∧ ∀ i, i < ss.length → SgOk R (ss.getD i [])
instance (R : Int) (ss : List (List Int)) : Decidable (SgsOk R ss) := by unfold SgsOk; infer_instance
/-- the code of a wiring and sights -/
def sgC (p : Int) (xs : List Int) (yss ss : List (List Int)) : Int := if wirB p xs yss = true then (if SgsOk (rcZ (xs.length : Int)) ss then 0 else 2) else 1
theorem sgC_zero {p : Int} {xs : List Int} {yss ss : List (List Int)} (h : sgC p xs yss ss = 0) : Wir p xs yss ∧ SgsOk (rcZ (xs.length : Int)) ss := by
  unfold sgC at h
  split at h
  · rename_i hw
    split at h
    · rename_i hx; exact ⟨wirB_out hw, hx⟩
    · cases h
  · cases h
/-- does a wiring with these values show the sights -/
def agP (z : Int) (ss : List (List Int)) (k : Nat) : Prop := digZ z ((ss.getD k []).getD 0 0) = (ss.getD k []).getD 1 0
instance (z : Int) (ss : List (List Int)) (k : Nat) : Decidable (agP z ss k) := by unfold agP; infer_instance
def agTo (z : Int) (ss : List (List Int)) (k : Nat) : Bool := decide (∀ j, j < k → agP z ss j)
def agB (z : Int) (ss : List (List Int)) : Bool := agTo z ss ss.length
theorem agTo_zero (z : Int) (ss : List (List Int)) : agTo z ss 0 = true := decide_eq_true fun j hj => by omega
theorem agTo_step {z : Int} {ss : List (List Int)} {k : Nat} (h : agTo z ss k = true) : agTo z ss (k + 1) = decide (agP z ss k) := by
  have h' : ∀ j, j < k → agP z ss j := of_decide_eq_true h
  unfold agTo
  by_cases hp : agP z ss k
  · rw [decide_eq_true hp]
    refine decide_eq_true fun j hj => ?_
    by_cases e : j = k
    · subst e; exact hp
    · exact h' j (by omega)
  · rw [decide_eq_false hp]
    exact decide_eq_false fun hh => hp (hh k (by omega))
theorem agTo_no {z : Int} {ss : List (List Int)} {k : Nat} (h : agTo z ss k = false) (hk : k ≤ ss.length) : agB z ss = false := by
  unfold agB agTo at *
  rw [decide_eq_false_iff_not] at h ⊢
  exact fun hh => h fun j hj => hh j (by omega)
theorem agB_out {z : Int} {ss : List (List Int)} : decide (∃ i, i < ss.length ∧ (digZ z ((ss.getD i []).getD 0 0) != (ss.getD i []).getD 1 0) = true) = !agB z ss := by
  unfold agB agTo
  by_cases h : ∀ j, j < ss.length → agP z ss j
  · rw [decide_eq_true h]
    exact decide_eq_false fun ⟨i, hi, e⟩ => by
      have := h i hi; unfold agP at this; rw [this] at e; simp at e
  · rw [decide_eq_false h]
    refine decide_eq_true (Classical.byContradiction fun hno => h fun j hj => Classical.byContradiction fun hx => hno ⟨j, hj, ?_⟩)
    unfold agP at hx
    simpa using hx
theorem tab_digit (xs : List Int) (yss : List (List Int)) (brk : Nat → Bool) {r : Int} (h0 : 0 ≤ r) (hr : r < rcZ (xs.length : Int)) : digZ (tabZ xs yss brk) r = if litR xs yss brk r.toNat = true then 1 else 0 := by
  have hr' : r.toNat < 2 ^ xs.length := by
    unfold rcZ at hr
    rw [Int.toNat_natCast] at hr
    omega
  unfold digZ tabZ tabN
  rw [Int.toNat_natCast, setOf_dig _ hr']
  cases litR xs yss brk r.toNat <;> rfl
/-- what the model asks of one sight -/
theorem ag_lit {xs : List Int} {yss ss : List (List Int)} {i k : Nat} (hi : i < yss.length) (h : SgOk (rcZ (xs.length : Int)) (ss.getD k [])) :
    (litB xs (yss.eraseIdx i) ((ss.getD k []).getD 0 0) == ((ss.getD k []).getD 1 0 == 1)) = decide (agP (tabI xs yss i) ss k) := by
  obtain ⟨_, ⟨a0, a1⟩, b0, b1⟩ := h
  have e : litR xs (yss.eraseIdx i) (fun _ => false) ((ss.getD k []).getD 0 0).toNat = litB xs (yss.eraseIdx i) ((ss.getD k []).getD 0 0) := by
    unfold litR litB
    rw [Int.toNat_of_nonneg a0]
  have hd : digZ (tabI xs yss i) ((ss.getD k []).getD 0 0) = if litB xs (yss.eraseIdx i) ((ss.getD k []).getD 0 0) = true then 1 else 0 := by
    rw [← tabI_erase xs hi, tab_digit _ _ _ a0 a1, e]
  have key : agP (tabI xs yss i) ss k ↔ ((if litB xs (yss.eraseIdx i) ((ss.getD k []).getD 0 0) = true then (1 : Int) else 0) = (ss.getD k []).getD 1 0) := by
    rw [← hd]; exact Iff.rfl
  have key2 : decide (agP (tabI xs yss i) ss k) = decide ((if litB xs (yss.eraseIdx i) ((ss.getD k []).getD 0 0) = true then (1 : Int) else 0) = (ss.getD k []).getD 1 0) := decide_eq_decide.2 key
  rw [key2]
  clear key2 key
  generalize (ss.getD k []).getD 1 0 = y at *
  have hy : y = 0 ∨ y = 1 := by omega
  cases litB xs (yss.eraseIdx i) ((ss.getD k []).getD 0 0) <;> rcases hy with rfl | rfl <;> rfl

noncomputable def agI (xs : List Int) (yss ss : List (List Int)) (i : Nat) : Bool := agB (tabI xs yss i) ss
noncomputable def resFaultsThatAgree_0 (p : Int) (xs : List Int) (yss ss : List (List Int)) : List Int := if sgC p xs yss ss = 0 then pickL (agI xs yss ss) yss.length else []
def resFaultsThatAgree_1 (p : Int) (xs : List Int) (yss ss : List (List Int)) : Int := sgC p xs yss ss
theorem lenFaultsThatAgree_0 (p : Int) (xs : List Int) (yss ss : List (List Int)) : (resFaultsThatAgree_0 p xs yss ss).length ≤ 100000 := by
  unfold resFaultsThatAgree_0
  split
  · rename_i h
    have h1 := pick_len (agI xs yss ss) yss.length
    have h2 := (sgC_zero h).1.2.2.1
    omega
  · simp

end Go.Proofs.Ytkdidplpnhokiaa
