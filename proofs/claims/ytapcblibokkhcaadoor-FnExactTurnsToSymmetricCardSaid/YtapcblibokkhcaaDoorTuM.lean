/- Inputs turned round: mathematics, and what TurnsToSymmetric gives. -/
import Derived.Test.YtapcblibokkhcaaDoorNuM
namespace Go.Proofs.YtapcblibokkhcaaDoor
open Go.RowKit
set_option linter.unusedVariables false

/-- the values when the inputs of the set t are turned round -/
def turnV (v : Int) (N t : Nat) : Int := buildZ (fun k => dig v.toNat (k ^^^ t)) (2 ^ N)
theorem turnV_bd (v : Int) {N : Nat} (t : Nat) (hN : N ≤ 5) : 0 ≤ turnV v N t ∧ turnV v N t < 9223372036854775808 := by
  have h2 : 2 ^ N ≤ 32 := pow5 hN
  have := buildZ_bd (fun k => dig v.toNat (k ^^^ t)) h2
  unfold turnV; omega
theorem xor_lt {N a b : Nat} (ha : a < 2 ^ N) (hb : b < 2 ^ N) : a ^^^ b < 2 ^ N := Nat.xor_lt_two_pow ha hb
/-- the least set of inputs that have to be turned round -/
def turnsF (v : Int) (N : Nat) : Option Nat := (List.range (2 ^ N)).find? fun t => symB (turnV v N t) N
theorem find_none (P : Nat → Bool) (n : Nat) (h : ∀ i, i < n → P i = false) : (List.range n).find? P = none := by
  rw [List.find?_eq_none]
  intro x hx
  have := h x (List.mem_range.1 hx)
  rw [this]; simp
theorem find_some (P : Nat → Bool) (n j : Nat) (hj : j < n) (hno : ∀ i, i < j → P i = false) (hy : P j = true) : (List.range n).find? P = some j := by
  induction n with
  | zero => omega
  | succ n ih =>
    rw [List.range_succ, List.find?_append]
    by_cases e : j < n
    · rw [ih e]; rfl
    · have ej : j = n := by omega
      subst ej
      rw [find_none P j hno]
      simp [hy]
def resTurnsToSymmetric_0 (n v : Int) : List Int := if isTab n v then (match turnsF v n.toNat with | some t => onesTo (t : Int) n.toNat | none => []) else []
def resTurnsToSymmetric_1 (n v : Int) : Int := if isTab n v then (match turnsF v n.toNat with | some _ => 0 | none => 4) else 1
theorem resTu_some {n v : Int} (ht : isTab n v = true) {N t : Nat} (hN : n.toNat = N) (h : turnsF v N = some t) : resTurnsToSymmetric_0 n v = onesTo (t : Int) N ∧ resTurnsToSymmetric_1 n v = 0 := by
  unfold resTurnsToSymmetric_0 resTurnsToSymmetric_1; rw [ht, hN, h]; exact ⟨rfl, rfl⟩
theorem resTu_none {n v : Int} (ht : isTab n v = true) {N : Nat} (hN : n.toNat = N) (h : turnsF v N = none) : resTurnsToSymmetric_0 n v = [] ∧ resTurnsToSymmetric_1 n v = 4 := by
  unfold resTurnsToSymmetric_0 resTurnsToSymmetric_1; rw [ht, hN, h]; exact ⟨rfl, rfl⟩
theorem resTu_bad {n v : Int} (ht : isTab n v = false) : resTurnsToSymmetric_0 n v = [] ∧ resTurnsToSymmetric_1 n v = 1 := by
  unfold resTurnsToSymmetric_0 resTurnsToSymmetric_1; rw [ht]; exact ⟨rfl, rfl⟩
theorem lenTurnsToSymmetric_0 (n v : Int) : (resTurnsToSymmetric_0 n v).length ≤ 1000 := by
  unfold resTurnsToSymmetric_0
  split
  · rename_i h
    obtain ⟨n1, n5, _, _⟩ := isTab_out h
    split
    · rename_i t _
      have := onesTo_len (t : Int) n.toNat
      omega
    · simp
  · simp
theorem turn_list {t N m : Nat} (ht : t < 2 ^ N) (hm : N ≤ m) : onesTo (t : Int) m = onesTo (t : Int) N := onesTo_high ht hm

end Go.Proofs.YtapcblibokkhcaaDoor
